/- Joined texts of this proof (SpecVal3, RunMath, EnvCopies, AnyStmts), in build order. -/
import Derived.Test.YtbnpoliogldohaaGreatS12
import Derived.Test.YtbnpoliogldohaaGreatS8
import Derived.Test.YtbnpoliogldohaaGreatS11
import Derived.Test.YtbnpoliogldohaaGreatS7
import Derived.Test.YtbnpoliogldohaaGreatS4
import Derived.Test.YtbnpoliogldohaaGreatS3
/- The contracts of the model's ValueIn and PlainIn. -/
namespace Go.Proofs.YtbnpoliogldohaaGreat
open Go.RowKit

/-- May it be reckoned? -/
noncomputable def reckB (p : Prg) (v : Envr) (ts : List Tm) : Bool := envB p v && namesB (2 ^ p.width.toNat) (p.lows.length + p.secrets.length + p.temps.toNat) p.arrays.length ts
noncomputable def plainB (p : Prg) (v : Envr) (ts : List Tm) : Nat := if reckB p v ts = true then (stkV (2 ^ p.width.toNat) v.vars v.cells ts).getD 0 0 else 0
noncomputable def trapB (p : Prg) (v : Envr) (ts : List Tm) : Int := if reckB p v ts = true then trapV (2 ^ p.width.toNat) v.vars v.cells ts ts.length else 0
noncomputable def valueB (p : Prg) (v : Envr) (ts : List Tm) : Nat := if trapB p v ts = 0 then plainB p v ts else 0

theorem valB_ok {S : Nat} {m : Int} {zs : List Int} (h : valB S m zs = true) : (zs.length : Int) = m ∧ ∀ z ∈ zs, 0 ≤ z ∧ z < (S : Int) := by
  simp only [valB, valsB, Bool.and_eq_true, decide_eq_true_eq, List.all_eq_true] at h
  exact ⟨h.1, fun z hz => h.2 z hz⟩
theorem envB_ok {p : Prg} {v : Envr} (h : envB p v = true) : codeB p = 0 ∧ (v.vars.length : Int) = (p.lows.length : Int) + (p.secrets.length : Int) + p.temps ∧ v.cells.length = p.arrays.length ∧ InEnv (2 ^ p.width.toNat) v.vars v.cells ∧ ∀ i, i < v.cells.length → ((intsAt v.cells i).length : Int) = p.arrays.getD i 0 := by
  simp only [envB, Bool.and_eq_true, decide_eq_true_eq, beq_iff_eq] at h
  obtain ⟨⟨h1, h2⟩, h3, h4⟩ := h
  obtain ⟨h5, h6⟩ := valB_ok h2
  simp only [cellsB, List.all_eq_true, List.mem_range] at h4
  refine ⟨h1, h5, h3, ⟨h6, fun cs hcs z hz => ?_⟩, fun i hi => (valB_ok (h4 i hi)).1⟩
  obtain ⟨i, hi, rfl⟩ := List.getElem_of_mem hcs
  have := (valB_ok (h4 i hi)).2
  unfold intsAt at this
  rw [List.getD_eq_getElem?_getD, List.getElem?_eq_getElem hi] at this
  exact this z hz
theorem names_ok {S V A : Nat} {ts : List Tm} (h : namesB S V A ts = true) : ts.length ≤ 3000 ∧ runD 0 ts = some 1 ∧ ∀ t ∈ ts, nameOk S V A t = true := by
  simp only [namesB, Bool.and_eq_true, List.all_eq_true] at h
  have := (expB_iff ts).1 h.1
  exact ⟨this.1, this.2, h.2⟩
theorem env_vars {p : Prg} {v : Envr} (h : envB p v = true) : v.vars.length = p.lows.length + p.secrets.length + p.temps.toNat := by
  obtain ⟨h1, h2, _⟩ := envB_ok h
  have := (code_head h1).2.2.2.2.1
  omega

theorem reck_of {p : Prg} {v : Envr} {ts : List Tm} (h1 : envB p v = true) (h2 : namesB (2 ^ p.width.toNat) (p.lows.length + p.secrets.length + p.temps.toNat) p.arrays.length ts = true) : Reck (2 ^ p.width.toNat) v ts := by
  obtain ⟨_, _, e3, e4, _⟩ := envB_ok h1
  obtain ⟨n1, n2, n3⟩ := names_ok h2
  exact ⟨n2, n1, fun t ht => by rw [env_vars h1, e3]; exact n3 t ht, e4⟩
theorem plainB_lt {P : Prg} {v : Envr} {ts : List Tm} (hok : codeB P = 0) : plainB P v ts < 2 ^ P.width.toNat := by
  have h0 : 0 < 2 ^ P.width.toNat := Nat.pow_pos (by omega)
  unfold plainB
  by_cases hR : reckB P v ts = true
  · rw [if_pos hR]
    simp only [reckB, Bool.and_eq_true] at hR
    have hk := reck_of hR.1 hR.2
    have hW := (code_head hok).1
    have hst := stk_lt (W := P.width.toNat) (by omega) hk.env (ts := ts) (fun t hm h0 => by
      have := hk.named t hm
      unfold nameOk at this
      rw [if_pos h0] at this
      exact of_decide_eq_true this) ts.length (Nat.le_refl _)
    rw [List.take_of_length_le (Nat.le_refl _)] at hst
    exact getD_nat h0 hst 0
  · rw [if_neg hR]; exact h0
end Go.Proofs.YtbnpoliogldohaaGreat
/- Plain mathematics of runs: what a statement does to variables, cells and what is put out; how a part of a body ends; that a right part has an end; that a part, cut out, runs as it did. -/
namespace Go.Proofs.YtbnpoliogldohaaGreat

/-- The state of a run: variables, cells, what was put out. -/
structure Sta where
  vars : List Int
  cells : List (List Int)
  outs : List Int
/-- How a part ends: (0, 0) done, (1, n) n was thrown, (2, t) the trap t. -/
abbrev Rz := Int × Int
def trS (S : Nat) (q : Sta) (ts : List Tm) : Int := trapV S q.vars q.cells ts ts.length
def vlS (S : Nat) (q : Sta) (ts : List Tm) : Nat := (stkV S q.vars q.cells ts).getD 0 0
def envOf (q : Sta) : Envr := ⟨q.vars, q.cells⟩
def setV (q : Sta) (n : Int) (z : Nat) : Sta := ⟨q.vars.set n.toNat (z : Int), q.cells, q.outs⟩
def putC (q : Sta) (n : Int) (i z : Nat) : Sta := ⟨q.vars, q.cells.set n.toNat ((intsAt q.cells n.toNat).set i (z : Int)), q.outs⟩
def outV (q : Sta) (z : Nat) : Sta := ⟨q.vars, q.cells, q.outs ++ [(z : Int)]⟩

/-- A statement that opens no block. -/
inductive Basic (S : Nat) (s : Stm) (q : Sta) : Sta → Rz → Prop where
  | set (h : s.op = 0) (ht : trS S q s.exp = 0) : Basic S s q (setV q s.n (vlS S q s.exp)) (0, 0)
  | setT (h : s.op = 0) (ht : trS S q s.exp ≠ 0) : Basic S s q q (2, trS S q s.exp)
  | put (h : s.op = 1) (ha : trS S q s.at_ = 0) (ht : trS S q s.exp = 0) (hl : vlS S q s.at_ < (intsAt q.cells s.n.toNat).length) : Basic S s q (putC q s.n (vlS S q s.at_) (vlS S q s.exp)) (0, 0)
  | putA (h : s.op = 1) (ha : trS S q s.at_ ≠ 0) : Basic S s q q (2, trS S q s.at_)
  | putE (h : s.op = 1) (ha : trS S q s.at_ = 0) (ht : trS S q s.exp ≠ 0) : Basic S s q q (2, trS S q s.exp)
  | putC (h : s.op = 1) (ha : trS S q s.at_ = 0) (ht : trS S q s.exp = 0) (hl : ¬ vlS S q s.at_ < (intsAt q.cells s.n.toNat).length) : Basic S s q q (2, 2)
  | out (h : s.op = 6) (ht : trS S q s.exp = 0) : Basic S s q (outV q (vlS S q s.exp)) (0, 0)
  | outT (h : s.op = 6) (ht : trS S q s.exp ≠ 0) : Basic S s q q (2, trS S q s.exp)
  | throw (h : s.op = 7) : Basic S s q q (1, s.n)
  | none (h0 : s.op ≠ 0) (h1 : s.op ≠ 1) (h6 : s.op ≠ 6) (h7 : s.op ≠ 7) : Basic S s q q (0, 0)
theorem basic_total (S : Nat) (s : Stm) (q : Sta) : ∃ q' r, Basic S s q q' r := by
  by_cases h0 : s.op = 0
  · by_cases ht : trS S q s.exp = 0
    · exact ⟨_, _, .set h0 ht⟩
    · exact ⟨_, _, .setT h0 ht⟩
  by_cases h1 : s.op = 1
  · by_cases ha : trS S q s.at_ = 0
    case neg => exact ⟨_, _, .putA h1 ha⟩
    by_cases ht : trS S q s.exp = 0
    case neg => exact ⟨_, _, .putE h1 ha ht⟩
    by_cases hl : vlS S q s.at_ < (intsAt q.cells s.n.toNat).length
    · exact ⟨_, _, .put h1 ha ht hl⟩
    · exact ⟨_, _, .putC h1 ha ht hl⟩
  by_cases h6 : s.op = 6
  · by_cases ht : trS S q s.exp = 0
    · exact ⟨_, _, .out h6 ht⟩
    · exact ⟨_, _, .outT h6 ht⟩
  by_cases h7 : s.op = 7
  · exact ⟨_, _, .throw h7⟩
  exact ⟨_, _, .none h0 h1 h6 h7⟩

/-- What is run: the statements of a part, one statement (its block with it), a part so many times. -/
inductive Mode where
  | seq
  | one
  | rounds (k : Nat)
/-- The part [i, j) (one: the statement at i, whose last place is j) leads from a state to another one, and ends so; s: its steps at most (rounds: of each round). -/
inductive Runs (S : Nat) (ss : List Stm) : Mode → Nat → Nat → Nat → Sta → Sta → Rz → Prop where
  | nil (i : Nat) (q : Sta) : Runs S ss .seq i i 0 q q (0, 0)
  | go {i e j s t : Nat} {q q1 q2 : Sta} {r : Rz} (h : Runs S ss .one i e s q q1 (0, 0)) (t' : Runs S ss .seq (e + 1) j t q1 q2 r) : Runs S ss .seq i j (s + t) q q2 r
  | stop {i e j s t : Nat} {q q1 : Sta} {r : Rz} (h : Runs S ss .one i e s q q1 r) (hr : r.1 ≠ 0) (hj : e < j) : Runs S ss .seq i j (s + t) q q1 r
  | zero (i j s : Nat) (q : Sta) : Runs S ss (.rounds 0) i j s q q (0, 0)
  | again {i j s k : Nat} {q q1 q2 : Sta} {r : Rz} (h : Runs S ss .seq i j s q q1 (0, 0)) (t' : Runs S ss (.rounds k) i j s q1 q2 r) : Runs S ss (.rounds (k + 1)) i j s q q2 r
  | halt {i j s k : Nat} {q q1 : Sta} {r : Rz} (h : Runs S ss .seq i j s q q1 r) (hr : r.1 ≠ 0) : Runs S ss (.rounds (k + 1)) i j s q q1 r
  | plain {i : Nat} {q q' : Sta} {r : Rz} (hi : i < ss.length) (h2 : opAt ss i ≠ 2) (h5 : opAt ss i ≠ 5) (h8 : opAt ss i ≠ 8) (h : Basic S (stAt ss i) q q' r) : Runs S ss .one i i 1 q q' r
  | ifT {i e s : Nat} {q : Sta} {M : Int} (hi : i < ss.length) (h2 : opAt ss i = 2) (he : endOf ss i = (M, (e : Int))) (hie : i < e) (ht : trS S q (stAt ss i).exp ≠ 0) : Runs S ss .one i e s q q (2, trS S q (stAt ss i).exp)
  | if1 {i e s : Nat} {q q' : Sta} {r : Rz} (hi : i < ss.length) (h2 : opAt ss i = 2) (he : endOf ss i = (-1, (e : Int))) (ht : trS S q (stAt ss i).exp = 0) (hv : vlS S q (stAt ss i).exp ≠ 0) (h : Runs S ss .seq (i + 1) e s q q' r) : Runs S ss .one i e (1 + s) q q' r
  | if0 {i e s : Nat} {q : Sta} (hi : i < ss.length) (h2 : opAt ss i = 2) (he : endOf ss i = (-1, (e : Int))) (hie : i < e) (ht : trS S q (stAt ss i).exp = 0) (hv : vlS S q (stAt ss i).exp = 0) : Runs S ss .one i e s q q (0, 0)
  | then_ {i m e s s' : Nat} {q q' : Sta} {r : Rz} (hi : i < ss.length) (h2 : opAt ss i = 2) (he : endOf ss i = ((m : Int), (e : Int))) (ht : trS S q (stAt ss i).exp = 0) (hv : vlS S q (stAt ss i).exp ≠ 0) (h : Runs S ss .seq (i + 1) m s q q' r) : Runs S ss .one i e (1 + max s s') q q' r
  | else_ {i m e s s' : Nat} {q q' : Sta} {r : Rz} (hi : i < ss.length) (h2 : opAt ss i = 2) (he : endOf ss i = ((m : Int), (e : Int))) (ht : trS S q (stAt ss i).exp = 0) (hv : vlS S q (stAt ss i).exp = 0) (h : Runs S ss .seq (m + 1) e s' q q' r) : Runs S ss .one i e (1 + max s s') q q' r
  | loop {i e k s : Nat} {q q' : Sta} {r : Rz} (hi : i < ss.length) (h5 : opAt ss i = 5) (he : endOf ss i = (-1, (e : Int))) (hk : (stAt ss i).n = (k : Int)) (h4 : k ≤ 4) (h : Runs S ss (.rounds k) (i + 1) e s q q' r) : Runs S ss .one i e (1 + k * (1 + s)) q q' r
  | try_ {i m e s s' : Nat} {q q' : Sta} {r : Rz} (hi : i < ss.length) (h8 : opAt ss i = 8) (he : endOf ss i = ((m : Int), (e : Int))) (h : Runs S ss .seq (i + 1) m s q q' r) (hr : r ≠ (1, (stAt ss m).n)) : Runs S ss .one i e (1 + s + s') q q' r
  | catch_ {i m e s s' : Nat} {q q1 q' : Sta} {r : Rz} (hi : i < ss.length) (h8 : opAt ss i = 8) (he : endOf ss i = ((m : Int), (e : Int))) (h : Runs S ss .seq (i + 1) m s q q1 (1, (stAt ss m).n)) (h' : Runs S ss .seq (m + 1) e s' q1 q' r) : Runs S ss .one i e (1 + s + s') q q' r


theorem trS_of {S : Nat} {q : Sta} {ts : List Tm} (h : trS S q ts ≠ 0) : trS S q ts = 1 ∨ trS S q ts = 2 := by
  have := trapV_range S q.vars q.cells ts ts.length
  unfold trS at h ⊢
  omega
/-- What an end is. -/
def Fin (r : Rz) : Prop := r = (0, 0) ∨ (∃ n, r = (1, n)) ∨ r = (2, 1) ∨ r = (2, 2)
theorem fin_trap {S : Nat} {q : Sta} {ts : List Tm} (h : trS S q ts ≠ 0) : Fin (2, trS S q ts) := by
  rcases trS_of h with e | e <;> rw [e]
  · exact .inr (.inr (.inl rfl))
  · exact .inr (.inr (.inr rfl))
theorem Basic.fin {S : Nat} {s : Stm} {q q' : Sta} {r : Rz} (h : Basic S s q q' r) : Fin r := by
  cases h with
  | setT _ h | putA _ h | putE _ _ h | outT _ h => exact fin_trap h
  | putC => exact .inr (.inr (.inr rfl))
  | throw => exact .inr (.inl ⟨_, rfl⟩)
  | _ => exact .inl rfl
theorem Runs.fin {S : Nat} {ss : List Stm} {m : Mode} {i j s : Nat} {q q' : Sta} {r : Rz} (h : Runs S ss m i j s q q' r) : Fin r := by
  induction h with
  | plain _ _ _ _ h => exact h.fin
  | ifT _ _ _ _ h => exact fin_trap h
  | nil | zero | if0 => exact .inl rfl
  | _ => assumption
theorem Fin.go {r : Rz} (h : Fin r) : r = (0, 0) ∨ r.1 ≠ 0 := by
  rcases h with h | ⟨n, h⟩ | h | h <;> subst h
  · exact .inl rfl
  · exact .inr (fun h : (1 : Int) = 0 => by omega)
  · exact .inr (by decide)
  · exact .inr (by decide)
theorem Runs.le {S : Nat} {ss : List Stm} {m : Mode} {i j s : Nat} {q q' : Sta} {r : Rz} (h : Runs S ss m i j s q q' r) : (m = .seq ∨ m = .one → i ≤ j) ∧ (m = .one → j < ss.length) := by
  induction h with
  | nil i => exact ⟨fun _ => Nat.le_refl _, fun h => by cases h⟩
  | go _ _ ih1 ih2 => exact ⟨fun _ => by have := ih1.1 (.inr rfl); have := ih2.1 (.inl rfl); omega, fun h => by cases h⟩
  | stop _ _ hj ih => exact ⟨fun _ => by have := ih.1 (.inr rfl); omega, fun h => by cases h⟩
  | zero | again | halt => exact ⟨fun h => (by rcases h with h | h <;> cases h), fun h => by cases h⟩
  | plain hi => exact ⟨fun _ => Nat.le_refl _, fun _ => hi⟩
  | ifT hi _ he | if1 hi _ he | if0 hi _ he | then_ hi _ he | else_ hi _ he | loop hi _ he | try_ hi _ he | catch_ hi _ he =>
    have := end_in ss hi
    rw [he] at this
    rcases this with e | e
    · injection e with _ e; omega
    · simp only [] at e; exact ⟨fun _ => by omega, fun _ => by omega⟩
theorem end_places {ss : List Stm} {i e : Nat} {M : Int} (hi : i < ss.length) (he : endOf ss i = (M, (e : Int))) : i < e ∧ e < ss.length ∧ (M = -1 ∨ ((i : Int) < M ∧ M < e)) := by
  have := end_in ss hi
  rw [he] at this
  rcases this with q | q
  · injection q with _ q; omega
  · simp only [] at q; omega
/-- What is put out is at most the steps. -/
def roundS : Mode → Nat → Nat
  | .rounds k, s => k * (1 + s)
  | _, s => s
theorem Basic.outs {S : Nat} {s : Stm} {q q' : Sta} {r : Rz} (h : Basic S s q q' r) : q'.outs.length ≤ q.outs.length + 1 := by
  cases h <;> simp [setV, Go.Proofs.YtbnpoliogldohaaGreat.putC, outV]
theorem Runs.outs {S : Nat} {ss : List Stm} {m : Mode} {i j s : Nat} {q q' : Sta} {r : Rz} (h : Runs S ss m i j s q q' r) : q'.outs.length ≤ q.outs.length + roundS m s := by
  induction h with
  | plain _ _ _ _ h => exact h.outs
  | again _ _ ih1 ih2 => simp only [roundS] at ih1 ih2 ⊢; rw [Nat.add_mul]; omega
  | halt _ _ ih1 => simp only [roundS] at ih1 ⊢; rw [Nat.add_mul]; omega
  | nil | zero | ifT | if0 => exact Nat.le_add_right _ _
  | _ => simp only [roundS] at *; omega
theorem rounds_total {S : Nat} {ss : List Stm} {i j s : Nat} (H : ∀ q, ∃ q' r, Runs S ss .seq i j s q q' r) : ∀ (k : Nat) (q : Sta), ∃ q' r, Runs S ss (.rounds k) i j s q q' r
  | 0, q => ⟨q, _, .zero i j s q⟩
  | k + 1, q => by
    obtain ⟨q1, r1, h1⟩ := H q
    rcases h1.fin.go with hr | hr
    · subst hr
      obtain ⟨q2, r2, h2⟩ := rounds_total H k q1
      exact ⟨_, _, .again h1 h2⟩
    · exact ⟨_, _, .halt h1 hr⟩
theorem runs_next {S : Nat} {ss : List Stm} {i e j s t : Nat} {q : Sta} (h : ∃ q1 r, Runs S ss .one i e s q q1 r) (hj : e < j) (H : ∀ q, ∃ q' r, Runs S ss .seq (e + 1) j t q q' r) : ∃ q' r, Runs S ss .seq i j (s + t) q q' r := by
  obtain ⟨q1, r1, h1⟩ := h
  rcases h1.fin.go with hr | hr
  · subst hr
    obtain ⟨q2, r2, h2⟩ := H q1
    exact ⟨_, _, .go h1 h2⟩
  · exact ⟨_, _, .stop h1 hr hj⟩
/-- A part that takes steps has an end, whatever the state. -/
theorem runs_total {S : Nat} {ss : List Stm} {i j s : Nat} (h : Steps ss i j s) : ∀ q, ∃ q' r, Runs S ss .seq i j s q q' r := by
  induction h with
  | nil i => exact fun q => ⟨_, _, .nil i q⟩
  | @plain i j s hi h2 h5 h8 t ih =>
    intro q
    obtain ⟨q1, r1, hb⟩ := basic_total S (stAt ss i) q
    have := (steps_small t).1
    exact runs_next ⟨q1, r1, .plain hi h2 h5 h8 hb⟩ (by omega) ih
  | @one i e j s t hi h2 he p p2 ih1 ih2 =>
    intro q
    have h3 := (steps_small p2).1
    have h4 := end_places hi he
    refine runs_next (e := e) (s := 1 + s) ?_ (by omega) ih2
    by_cases ht : trS S q (stAt ss i).exp = 0
    case neg => exact ⟨_, _, .ifT hi h2 he h4.1 ht⟩
    by_cases hv : vlS S q (stAt ss i).exp = 0
    · exact ⟨_, _, .if0 hi h2 he h4.1 ht hv⟩
    · obtain ⟨q1, r1, h⟩ := ih1 q
      exact ⟨_, _, .if1 hi h2 he ht hv h⟩
  | @two i m e j s s' t hi h2 he p p' p2 ih1 ih1' ih2 =>
    intro q
    have h3 := (steps_small p2).1
    have h4 := end_places hi he
    refine runs_next (e := e) (s := 1 + max s s') ?_ (by omega) ih2
    by_cases ht : trS S q (stAt ss i).exp = 0
    case neg => exact ⟨_, _, .ifT hi h2 he h4.1 ht⟩
    by_cases hv : vlS S q (stAt ss i).exp = 0
    · obtain ⟨q1, r1, h⟩ := ih1' q
      exact ⟨_, _, .else_ hi h2 he ht hv h⟩
    · obtain ⟨q1, r1, h⟩ := ih1 q
      exact ⟨_, _, .then_ hi h2 he ht hv h⟩
  | @loop i e j k s t hi h5 he hk h4 p p2 ih1 ih2 =>
    intro q
    have h3 := (steps_small p2).1
    refine runs_next (e := e) (s := 1 + k * (1 + s)) ?_ (by omega) ih2
    obtain ⟨q1, r1, h⟩ := rounds_total ih1 k q
    exact ⟨_, _, .loop hi h5 he hk h4 h⟩
  | @attempt i m e j s s' t hi h8 he p p' p2 ih1 ih1' ih2 =>
    intro q
    have h3 := (steps_small p2).1
    refine runs_next (e := e) (s := 1 + s + s') ?_ (by omega) ih2
    obtain ⟨q1, r1, h⟩ := ih1 q
    by_cases hr : r1 = (1, (stAt ss m).n)
    · subst hr
      obtain ⟨q2, r2, h'⟩ := ih1' q1
      exact ⟨_, _, .catch_ hi h8 he h h'⟩
    · exact ⟨_, _, .try_ hi h8 he h hr⟩
end Go.Proofs.YtbnpoliogldohaaGreat
/- The laws' own helpers on environments: toInt64SS, toEnv, eqInt64SS, eqEnv; what szInt64SS, szEnv answer; what an argument that is an environment is. -/
namespace Go.Proofs.YtbnpoliogldohaaGreat
open Go.RowKit Go.ChangeShapes Go.WideShapes

/-- A slice of slices of numbers of the call's own, from block B on. -/
def OwnIS (w : World) (B : Nat) (a : Option Addr) (n c : Nat) (rs : List Sl) (css : List (List Int)) : Prop :=
  w.ownsRow B 25 1 (.slice a n c) n (rs.map slV) ∧ n ≤ 1048576 ∧ css.length = n ∧ ∀ i, i < n → Own w B (slAt rs i).1 (slAt rs i).2.1 (slAt rs i).2.2 (intsAt css i)
section
variable {w w' : World} {B : Nat} {a : Option Addr} {n c : Nat} {rs : List Sl} {css : List (List Int)}
theorem OwnIS.len (h : OwnIS w B a n c rs css) : rs.length = n := by have := h.1.1; simpa using this
theorem OwnIS.reads (h : OwnIS w B a n c rs css) : IntsSS w a n rs css := by
  have hlen := h.len
  obtain ⟨ho, hn, ht, hi⟩ := h
  refine ⟨hlen, ht, hn, fun hp => ?_, fun i h' => (hi i h').ints⟩
  rcases ho.2 with ⟨_, h0⟩ | ⟨g, cap, cur, e, _, hh, _⟩
  · exact absurd hp (by omega)
  · have ea : a = some ⟨g, 0, none⟩ := by injection e
    subst ea
    refine ⟨g, 0, rfl, (ho.lt g rfl).2, fun i h' => ?_⟩
    rw [Nat.zero_add, ho.cellAt i (by omega)]
    simp [slAt, List.getD_eq_getElem?_getD, List.getElem?_eq_getElem (show i < rs.length by omega)]
theorem OwnIS.below (h : OwnIS w B a n c rs css) (hb : Below w.heap.size w w') : OwnIS w' B a n c rs css :=
  ⟨h.1.kept (row := none) ⟨hb.os, hb.tape, hb.output, hb.size, fun k hk _ => hb.block k hk⟩ (by cases a <;> simp [Value.ownBlock]), h.2.1, h.2.2.1, fun i hi => (h.2.2.2 i hi).below hb⟩
theorem OwnIS.set (h : OwnIS w B a n c rs css) {b j : Nat} (hb : b < B) (v : Value) : OwnIS (w.setCell ⟨b, j, none⟩ v) B a n c rs css := by
  refine ⟨h.1.kept (grown_set _ _ _ _) ?_, h.2.1, h.2.2.1, fun i hi => (h.2.2.2 i hi).set hb v⟩
  cases hv : (Value.slice a n c).ownBlock with
  | none => exact .inl rfl
  | some g =>
    refine .inr fun e => ?_
    have := (h.1.lt g hv).1
    injection e with e
    omega
end
/-- The first rows qs, empty ones behind. -/
def CopyR (qs : List Sl) (n : Nat) : List Sl := qs ++ List.replicate (n - qs.length) (none, 0, 0)
def RowsI (w : World) (B : Nat) (qs : List Sl) (css : List (List Int)) : Prop := ∀ i, i < qs.length → Own w B (slAt qs i).1 (slAt qs i).2.1 (slAt qs i).2.2 (intsAt css i)
theorem RowsI.succ {w w' : World} {B : Nat} {qs : List Sl} {css : List (List Int)} {r : Sl} (h : RowsI w B qs css) (hb : Below w.heap.size w w') (hr : Own w' w.heap.size r.1 r.2.1 r.2.2 (intsAt css qs.length)) (hB : B ≤ w.heap.size) : RowsI w' B (qs ++ [r]) css := by
  intro i hi
  rcases Nat.lt_or_ge i qs.length with hlt | hge
  · rw [show slAt (qs ++ [r]) i = slAt qs i from getD_left _ _ _ _ hlt]
    exact (h i hlt).below hb
  · have e : i = qs.length := by simp at hi; omega
    subst e
    rw [show slAt (qs ++ [r]) qs.length = r from getD_last _ _ _ _ rfl]
    exact hr.base hB
theorem RowsI.set {w : World} {B : Nat} {qs : List Sl} {css : List (List Int)} (h : RowsI w B qs css) {b j : Nat} (hb : b < B) (v : Value) : RowsI (w.setCell ⟨b, j, none⟩ v) B qs css := fun i hi => (h i hi).set hb v
def MadeIS (w : World) (css : List (List Int)) (e : Ending) (w' : World) : Prop := ∃ a n c rs, e = .returned (.slice a n c) ∧ OwnIS w' w.heap.size a n c rs css ∧ Below w.heap.size w w'

end Go.Proofs.YtbnpoliogldohaaGreat
/- Slices of Stmts of the call's own whose Stmts are not told; 'append' to them. -/
namespace Go.Proofs.YtbnpoliogldohaaGreat
open Go.RowKit

/-- A slice of Stmts of the call's own, from block B on; its Stmts' slices lie from B on, too. -/
def OwnS (w : World) (B : Nat) (a : Option Addr) (n c : Nat) (rs : List SRow) (ss : List Stm) : Prop :=
  w.ownsRow B 74 4 (.slice a n c) n (flatS rs) ∧ n ≤ 1048576 ∧ ss.length = n ∧ ∀ i, i < n → OwnStm w B (srAt rs i) (stAt ss i)
section
variable {w w' : World} {B : Nat} {r : SRow} {s : Stm} {a : Option Addr} {n c : Nat} {rs : List SRow} {ss : List Stm}
theorem OwnS.len (h : OwnS w B a n c rs ss) : rs.length = n := by have := h.1.1; rw [flatS_len] at this; omega
theorem OwnS.below (h : OwnS w B a n c rs ss) (hb : Below w.heap.size w w') : OwnS w' B a n c rs ss :=
  ⟨h.1.kept (row := none) ⟨hb.os, hb.tape, hb.output, hb.size, fun k hk _ => hb.block k hk⟩ (by cases a <;> simp [Value.ownBlock]), h.2.1, h.2.2.1, fun i hi => (h.2.2.2 i hi).below hb⟩
theorem OwnS.base {B' : Nat} (h : OwnS w B a n c rs ss) (hB : B' ≤ B) : OwnS w B' a n c rs ss := by
  refine ⟨⟨h.1.1, ?_⟩, h.2.1, h.2.2.1, fun i hi => (h.2.2.2 i hi).base hB⟩
  rcases h.1.2 with hn | ⟨g, cap, cur, e, hb, r⟩
  · exact .inl hn
  · exact .inr ⟨g, cap, cur, e, by omega, r⟩
theorem OwnS.reads (h : OwnS w B a n c rs ss) : Stmts w a n rs ss := by
  have hlen := h.len
  obtain ⟨ho, hn, hs, hi⟩ := h
  refine ⟨hlen, hs, hn, fun hp => ?_, fun i h' => (hi i h').reads⟩
  rcases ho.2 with ⟨_, h0⟩ | ⟨g, cap, cur, e, _, hh, _⟩
  · exact absurd hp (by omega)
  · have ea : a = some ⟨g, 0, none⟩ := by injection e
    subst ea
    refine ⟨g, 0, rfl, (ho.lt g rfl).2, fun i h' => ?_⟩
    have e0 := flatS_at rs i 0 (by omega) (by omega)
    have e1 := flatS_at rs i 1 (by omega) (by omega)
    have e2 := flatS_at rs i 2 (by omega) (by omega)
    have e3 := flatS_at rs i 3 (by omega) (by omega)
    rw [Nat.zero_add, ho.cellAt (i * 4) (by omega), ho.cellAt (i * 4 + 1) (by omega), ho.cellAt (i * 4 + 2) (by omega), ho.cellAt (i * 4 + 3) (by omega)]
    exact ⟨e0, e1, e2, e3⟩
theorem OwnS.block (h : OwnS w B a n c rs ss) : ∀ g, (Value.slice a n c).ownBlock = some g → B ≤ g ∧ g < w.heap.size := h.1.lt
theorem OwnS.cap (h : OwnS w B a n c rs ss) : n ≤ c := by
  rcases h.1.2 with ⟨e1, h0⟩ | ⟨g, cap, cur, e1, hb, hg, hnc, _⟩
  · injection e1 with _ e2 e3; omega
  · injection e1 with _ e2 e3; omega
/-- An elder block turns. -/
theorem OwnT.old {p : Nat} {ts : List Tm} (h : OwnT w B a n c ts) (hp : p < B) (hg : w.grownBy w' (some p)) : OwnT w' B a n c ts :=
  h.apart hg (fun g hgg e => by have := (h.block g hgg).1; injection e with e; omega)
theorem OwnStm.old {p : Nat} (h : OwnStm w B r s) (hp : p < B) (hg : w.grownBy w' (some p)) : OwnStm w' B r s :=
  ⟨h.1, h.2.1, h.2.2.1, h.2.2.2.1, h.2.2.2.2.1.old hp hg, h.2.2.2.2.2.old hp hg⟩
theorem OwnS.old {p : Nat} (h : OwnS w B a n c rs ss) (hp : p < B) (hg : w.grownBy w' (some p)) : OwnS w' B a n c rs ss := by
  refine ⟨h.1.kept hg ?_, h.2.1, h.2.2.1, fun i hi => (h.2.2.2 i hi).old hp hg⟩
  cases hv : (Value.slice a n c).ownBlock with
  | none => exact .inl rfl
  | some g => exact .inr (fun e => by have := (h.block g hv).1; injection e with e; omega)
/-- The row of Stmts itself grows: a Stmt's Terms lie elsewhere. -/
theorem addr_add (g j : Nat) : (⟨g, 0, none⟩ : Addr).add j = ⟨g, j, none⟩ := by by_cases h : j = 0 <;> simp [Addr.add, h]
theorem kinds_apart {g : Nat} {ts : List Tm} {b : Option Addr} {m d : Nat} {xs : List Value} (h : OwnT w B b m d ts) (hr : w.ownsRow B 74 4 (.slice a n c) n xs) (hg : (Value.slice a n c).ownBlock = some g) : (Value.slice b m d).ownBlock ≠ some g := by
  intro e
  obtain ⟨c1, f1, h1⟩ := Lib.ownsRow_kind h.1 g e
  obtain ⟨c2, f2, h2⟩ := Lib.ownsRow_kind hr g hg
  rw [h1] at h2
  injection h2 with h2
  injection h2 with _ h2 _
  exact absurd h2 (by decide)
theorem OwnT.rowGrew {ts : List Tm} {b : Option Addr} {m d : Nat} {xs : List Value} (h : OwnT w B b m d ts) (hr : w.ownsRow B 74 4 (.slice a n c) n xs) (hg : w.grownBy w' (Value.slice a n c).ownBlock) : OwnT w' B b m d ts :=
  h.apart hg (fun _ e e' => kinds_apart h hr e' e)
theorem OwnStm.rowGrew {xs : List Value} (h : OwnStm w B r s) (hr : w.ownsRow B 74 4 (.slice a n c) n xs) (hg : w.grownBy w' (Value.slice a n c).ownBlock) : OwnStm w' B r s :=
  ⟨h.1, h.2.1, h.2.2.1, h.2.2.2.1, h.2.2.2.2.1.rowGrew hr hg, h.2.2.2.2.2.rowGrew hr hg⟩
end
theorem srAt_append_left {a b : List SRow} {k : Nat} (h : k < a.length) : srAt (a ++ b) k = srAt a k := by simp [srAt, List.getD_eq_getElem?_getD, List.getElem?_append_left h]
theorem srAt_append_right {a b : List SRow} {k : Nat} (h : a.length ≤ k) : srAt (a ++ b) k = srAt b (k - a.length) := by simp [srAt, List.getD_eq_getElem?_getD, List.getElem?_append_right h]
theorem stAt_append_left {a b : List Stm} {k : Nat} (h : k < a.length) : stAt (a ++ b) k = stAt a k := by simp [stAt, List.getD_eq_getElem?_getD, List.getElem?_append_left h]
theorem stAt_append_right {a b : List Stm} {k : Nat} (h : a.length ≤ k) : stAt (a ++ b) k = stAt b (k - a.length) := by simp [stAt, List.getD_eq_getElem?_getD, List.getElem?_append_right h]
theorem flatS_one (us : List SRow) : ∀ u ∈ flatS us, u.oneCell' = true := by
  intro u hu
  obtain ⟨r, _, hr⟩ := List.mem_flatMap.1 hu
  simp only [srowV, List.mem_cons, List.not_mem_nil, or_false] at hr
  rcases hr with rfl | rfl | rfl | rfl <;> rfl

/-- .. whatever its Stmts are. -/
def AnyS (w : World) (B : Nat) (a : Option Addr) (n c : Nat) : Prop := ∃ rs ss, OwnS w B a n c rs ss
/-- Some Stmts at an address, to be taken over. -/
def News (w : World) (B : Nat) (ad : Addr) (m : Nat) : Prop :=
  ∃ (us : List SRow) (vs : List Stm), us.length = m ∧ vs.length = m ∧ (∀ j u, (flatS us)[j]? = some u → w.cell? (ad.add j) = some u) ∧ ∀ i, i < m → OwnStm w B (srAt us i) (stAt vs i)
section
variable {w w' : World} {B : Nat} {a : Option Addr} {n c : Nat}
theorem AnyS.below (h : AnyS w B a n c) (hb : Below w.heap.size w w') : AnyS w' B a n c := by obtain ⟨rs, ss, h⟩ := h; exact ⟨rs, ss, h.below hb⟩
theorem AnyS.alloc (h : AnyS w B a n c) (o : Obj) : AnyS (w.alloc o) B a n c := h.below ((Below.refl _ _).alloc (Nat.le_refl _) o)
theorem AnyS.base {B' : Nat} (h : AnyS w B a n c) (hB : B' ≤ B) : AnyS w B' a n c := by obtain ⟨rs, ss, h⟩ := h; exact ⟨rs, ss, h.base hB⟩
theorem AnyS.block (h : AnyS w B a n c) : ∀ g, (Value.slice a n c).ownBlock = some g → B ≤ g ∧ g < w.heap.size := by obtain ⟨rs, ss, h⟩ := h; exact h.block
theorem AnyS.old {p : Nat} (h : AnyS w B a n c) (hp : p < B) (hg : w.grownBy w' (some p)) : AnyS w' B a n c := by obtain ⟨rs, ss, h⟩ := h; exact ⟨rs, ss, h.old hp hg⟩
theorem AnyS.news {g : Nat} (h : AnyS w B (some ⟨g, 0, none⟩) n c) : News w B ⟨g, 0, none⟩ n := by
  obtain ⟨rs, ss, h⟩ := h
  refine ⟨rs, ss, h.len, h.2.2.1, fun j u hj => ?_, h.2.2.2⟩
  have hlt : j < (flatS rs).length := (List.getElem?_eq_some_iff.1 hj).1
  rw [flatS_len, h.len] at hlt
  rw [addr_add, h.1.cellAt j hlt]
  exact hj
end
end Go.Proofs.YtbnpoliogldohaaGreat
