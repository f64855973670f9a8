/- Joined texts of this proof (SpecVal2, SpecVal3, RunMath, EnvCopies, AnyStmts), in build order. -/
import Derived.Test.YtalcambmmbilkaaJ9
import Derived.Test.YtalcambmmbilkaaJ11
import Derived.Deep.DeepCutAuto
import Derived.Deep.CutBlock
import Derived.Test.YtalcambmmbilkaaJ8
import Derived.Test.YtalcambmmbilkaaJ7
import Derived.Test.YtalcambmmbilkaaJ4
import Derived.Test.YtalcambmmbilkaaJ3
/- The contract of the model's l5Value: an expression's value and its first trap. -/
namespace Go.Proofs.Ytalcambmmbilkaa
open Go.RowKit

def zl (st : List Nat) : List Int := st.map Int.ofNat
theorem zl_len (st : List Nat) : (zl st).length = st.length := by simp [zl]
theorem zl_getD (st : List Nat) (i : Nat) : (zl st).getD i 0 = ((st.getD i 0 : Nat) : Int) := by
  unfold zl
  rw [List.getD_eq_getElem?_getD, List.getD_eq_getElem?_getD, List.getElem?_map]
  cases st[i]? <;> rfl
theorem nats_at {w : World} {a : Option Addr} {n : Nat} {st : List Nat} (h : Ints w a n (zl st)) {k : Nat} (hk : k < n) : ∃ b o, ∃ z : Nat, a = some ⟨b, o, none⟩ ∧ b < w.heap.size ∧ Hid (st.getD k 0 = z) ∧ w.cell? ⟨b, o + k, none⟩ = some (.int .i64 (z : Int)) := by
  obtain ⟨b, o, z, e, hb, hz, _, hc⟩ := h.at_ hk
  exact ⟨b, o, st.getD k 0, e, hb, rfl, by rw [hc, hz.out, zl_getD]⟩
theorem stk_lt {W : Nat} (hW : 1 ≤ W) {V : List Int} {C : List (List Int)} (he : InEnv (2 ^ W) V C) {ts : List Tm} (ht : ∀ t ∈ ts, t.1 = 0 → t.2 < ((2 ^ W : Nat) : Int)) : ∀ k, k ≤ ts.length → ∀ x ∈ stkV (2 ^ W) V C (ts.take k), x < 2 ^ W := by
  intro k
  induction k with
  | zero => intro _ x hx; simp [stkV] at hx
  | succ k ih =>
    intro hk
    rw [stkV_succ _ _ _ _ _ (by omega)]
    exact stepV_lt hW he (ht _ (tmAt_mem (by omega))) (ih (by omega))
theorem ints_drop {w : World} {g o m q : Nat} {zs : List Int} (h : Ints w (some ⟨g, o, none⟩) (m + q) zs) : Ints w (some ⟨g, o + m, none⟩) q (zs.drop m) := by
  obtain ⟨hl, hn, hin, hc⟩ := h
  refine ⟨by rw [List.length_drop]; omega, by omega, fun z hz => hin z (List.mem_of_mem_drop hz), fun hp => ?_⟩
  obtain ⟨b, o', e, hb, hcell⟩ := hc (by omega)
  injection e with e
  injection e with e1 e2
  subst e1 e2
  refine ⟨g, o + m, rfl, hb, fun i hi => ?_⟩
  rw [Nat.add_assoc, hcell (m + i) (by omega)]
  simp [List.getD_eq_getElem?_getD, List.getElem?_drop]
theorem ints_alloc {w : World} {a : Option Addr} {n : Nat} {zs : List Int} (h : Ints w a n zs) (o : Obj) : Ints (w.alloc o) a n zs := h.below ((Below.refl _ _).alloc (Nat.le_refl _) _)
theorem in64_nat {x : Nat} (h : x < 256) : In64 (x : Int) := ⟨by omega, by omega⟩

/-- What a right expression, over an environment, allows. -/
structure Reck (S : Nat) (v : Envr) (ts : List Tm) : Prop where
  run : runD 0 ts = some 1
  long : ts.length ≤ 3000
  named : ∀ t ∈ ts, nameOk S v.vars.length v.cells.length t = true
  env : InEnv S v.vars v.cells
end Go.Proofs.Ytalcambmmbilkaa
/- The contracts of the model's ValueIn and PlainIn. -/
namespace Go.Proofs.Ytalcambmmbilkaa
open Go.RowKit

/-- May it be reckoned? -/
noncomputable def reckB (p : Prg) (v : Envr) (ts : List Tm) : Bool := envB p v && namesB (2 ^ p.width.toNat) (p.lows.length + p.secrets.length + p.temps.toNat) p.arrays.length ts
noncomputable def plainB (p : Prg) (v : Envr) (ts : List Tm) : Nat := if reckB p v ts = true then (stkV (2 ^ p.width.toNat) v.vars v.cells ts).getD 0 0 else 0
noncomputable def trapB (p : Prg) (v : Envr) (ts : List Tm) : Int := if reckB p v ts = true then trapV (2 ^ p.width.toNat) v.vars v.cells ts ts.length else 0
noncomputable def valueB (p : Prg) (v : Envr) (ts : List Tm) : Nat := if trapB p v ts = 0 then plainB p v ts else 0

theorem valB_ok {S : Nat} {m : Int} {zs : List Int} (h : valB S m zs = true) : (zs.length : Int) = m ∧ ∀ z ∈ zs, 0 ≤ z ∧ z < (S : Int) := by
  simp only [valB, valsB, Bool.and_eq_true, decide_eq_true_eq, List.all_eq_true] at h
  exact ⟨h.1, fun z hz => h.2 z hz⟩
theorem envB_ok {p : Prg} {v : Envr} (h : envB p v = true) : codeB p = 0 ∧ (v.vars.length : Int) = (p.lows.length : Int) + (p.secrets.length : Int) + p.temps ∧ v.cells.length = p.arrays.length ∧ InEnv (2 ^ p.width.toNat) v.vars v.cells ∧ ∀ i, i < v.cells.length → ((intsAt v.cells i).length : Int) = p.arrays.getD i 0 := by
  simp only [envB, Bool.and_eq_true, decide_eq_true_eq, beq_iff_eq] at h
  obtain ⟨⟨h1, h2⟩, h3, h4⟩ := h
  obtain ⟨h5, h6⟩ := valB_ok h2
  simp only [cellsB, List.all_eq_true, List.mem_range] at h4
  refine ⟨h1, h5, h3, ⟨h6, fun cs hcs z hz => ?_⟩, fun i hi => (valB_ok (h4 i hi)).1⟩
  obtain ⟨i, hi, rfl⟩ := List.getElem_of_mem hcs
  have := (valB_ok (h4 i hi)).2
  unfold intsAt at this
  rw [List.getD_eq_getElem?_getD, List.getElem?_eq_getElem hi] at this
  exact this z hz
theorem names_ok {S V A : Nat} {ts : List Tm} (h : namesB S V A ts = true) : ts.length ≤ 3000 ∧ runD 0 ts = some 1 ∧ ∀ t ∈ ts, nameOk S V A t = true := by
  simp only [namesB, Bool.and_eq_true, List.all_eq_true] at h
  have := (expB_iff ts).1 h.1
  exact ⟨this.1, this.2, h.2⟩
theorem env_vars {p : Prg} {v : Envr} (h : envB p v = true) : v.vars.length = p.lows.length + p.secrets.length + p.temps.toNat := by
  obtain ⟨h1, h2, _⟩ := envB_ok h
  have := (code_head h1).2.2.2.2.1
  omega

theorem reck_of {p : Prg} {v : Envr} {ts : List Tm} (h1 : envB p v = true) (h2 : namesB (2 ^ p.width.toNat) (p.lows.length + p.secrets.length + p.temps.toNat) p.arrays.length ts = true) : Reck (2 ^ p.width.toNat) v ts := by
  obtain ⟨_, _, e3, e4, _⟩ := envB_ok h1
  obtain ⟨n1, n2, n3⟩ := names_ok h2
  exact ⟨n2, n1, fun t ht => by rw [env_vars h1, e3]; exact n3 t ht, e4⟩
theorem plainB_lt {P : Prg} {v : Envr} {ts : List Tm} (hok : codeB P = 0) : plainB P v ts < 2 ^ P.width.toNat := by
  have h0 : 0 < 2 ^ P.width.toNat := Nat.pow_pos (by omega)
  unfold plainB
  by_cases hR : reckB P v ts = true
  · rw [if_pos hR]
    simp only [reckB, Bool.and_eq_true] at hR
    have hk := reck_of hR.1 hR.2
    have hW := (code_head hok).1
    have hst := stk_lt (W := P.width.toNat) (by omega) hk.env (ts := ts) (fun t hm h0 => by
      have := hk.named t hm
      unfold nameOk at this
      rw [if_pos h0] at this
      exact of_decide_eq_true this) ts.length (Nat.le_refl _)
    rw [List.take_of_length_le (Nat.le_refl _)] at hst
    exact getD_nat h0 hst 0
  · rw [if_neg hR]; exact h0
end Go.Proofs.Ytalcambmmbilkaa
/- Plain mathematics of runs: what a statement does to variables, cells and what is put out; how a part of a body ends; that a right part has an end; that a part, cut out, runs as it did. -/
namespace Go.Proofs.Ytalcambmmbilkaa

/-- The state of a run: variables, cells, what was put out. -/
structure Sta where
  vars : List Int
  cells : List (List Int)
  outs : List Int
/-- How a part ends: (0, 0) done, (1, n) n was thrown, (2, t) the trap t. -/
abbrev Rz := Int × Int
def trS (S : Nat) (q : Sta) (ts : List Tm) : Int := trapV S q.vars q.cells ts ts.length
def vlS (S : Nat) (q : Sta) (ts : List Tm) : Nat := (stkV S q.vars q.cells ts).getD 0 0
def envOf (q : Sta) : Envr := ⟨q.vars, q.cells⟩
def setV (q : Sta) (n : Int) (z : Nat) : Sta := ⟨q.vars.set n.toNat (z : Int), q.cells, q.outs⟩
def putC (q : Sta) (n : Int) (i z : Nat) : Sta := ⟨q.vars, q.cells.set n.toNat ((intsAt q.cells n.toNat).set i (z : Int)), q.outs⟩
def outV (q : Sta) (z : Nat) : Sta := ⟨q.vars, q.cells, q.outs ++ [(z : Int)]⟩

/-- A statement that opens no block. -/
inductive Basic (S : Nat) (s : Stm) (q : Sta) : Sta → Rz → Prop where
  | set (h : s.op = 0) (ht : trS S q s.exp = 0) : Basic S s q (setV q s.n (vlS S q s.exp)) (0, 0)
  | setT (h : s.op = 0) (ht : trS S q s.exp ≠ 0) : Basic S s q q (2, trS S q s.exp)
  | put (h : s.op = 1) (ha : trS S q s.at_ = 0) (ht : trS S q s.exp = 0) (hl : vlS S q s.at_ < (intsAt q.cells s.n.toNat).length) : Basic S s q (putC q s.n (vlS S q s.at_) (vlS S q s.exp)) (0, 0)
  | putA (h : s.op = 1) (ha : trS S q s.at_ ≠ 0) : Basic S s q q (2, trS S q s.at_)
  | putE (h : s.op = 1) (ha : trS S q s.at_ = 0) (ht : trS S q s.exp ≠ 0) : Basic S s q q (2, trS S q s.exp)
  | putC (h : s.op = 1) (ha : trS S q s.at_ = 0) (ht : trS S q s.exp = 0) (hl : ¬ vlS S q s.at_ < (intsAt q.cells s.n.toNat).length) : Basic S s q q (2, 2)
  | out (h : s.op = 6) (ht : trS S q s.exp = 0) : Basic S s q (outV q (vlS S q s.exp)) (0, 0)
  | outT (h : s.op = 6) (ht : trS S q s.exp ≠ 0) : Basic S s q q (2, trS S q s.exp)
  | throw (h : s.op = 7) : Basic S s q q (1, s.n)
  | none (h0 : s.op ≠ 0) (h1 : s.op ≠ 1) (h6 : s.op ≠ 6) (h7 : s.op ≠ 7) : Basic S s q q (0, 0)
theorem basic_total (S : Nat) (s : Stm) (q : Sta) : ∃ q' r, Basic S s q q' r := by
  by_cases h0 : s.op = 0
  · by_cases ht : trS S q s.exp = 0
    · exact ⟨_, _, .set h0 ht⟩
    · exact ⟨_, _, .setT h0 ht⟩
  by_cases h1 : s.op = 1
  · by_cases ha : trS S q s.at_ = 0
    case neg => exact ⟨_, _, .putA h1 ha⟩
    by_cases ht : trS S q s.exp = 0
    case neg => exact ⟨_, _, .putE h1 ha ht⟩
    by_cases hl : vlS S q s.at_ < (intsAt q.cells s.n.toNat).length
    · exact ⟨_, _, .put h1 ha ht hl⟩
    · exact ⟨_, _, .putC h1 ha ht hl⟩
  by_cases h6 : s.op = 6
  · by_cases ht : trS S q s.exp = 0
    · exact ⟨_, _, .out h6 ht⟩
    · exact ⟨_, _, .outT h6 ht⟩
  by_cases h7 : s.op = 7
  · exact ⟨_, _, .throw h7⟩
  exact ⟨_, _, .none h0 h1 h6 h7⟩

/-- What is run: the statements of a part, one statement (its block with it), a part so many times. -/
inductive Mode where
  | seq
  | one
  | rounds (k : Nat)
/-- The part [i, j) (one: the statement at i, whose last place is j) leads from a state to another one, and ends so; s: its steps at most (rounds: of each round). -/
inductive Runs (S : Nat) (ss : List Stm) : Mode → Nat → Nat → Nat → Sta → Sta → Rz → Prop where
  | nil (i : Nat) (q : Sta) : Runs S ss .seq i i 0 q q (0, 0)
  | go {i e j s t : Nat} {q q1 q2 : Sta} {r : Rz} (h : Runs S ss .one i e s q q1 (0, 0)) (t' : Runs S ss .seq (e + 1) j t q1 q2 r) : Runs S ss .seq i j (s + t) q q2 r
  | stop {i e j s t : Nat} {q q1 : Sta} {r : Rz} (h : Runs S ss .one i e s q q1 r) (hr : r.1 ≠ 0) (hj : e < j) : Runs S ss .seq i j (s + t) q q1 r
  | zero (i j s : Nat) (q : Sta) : Runs S ss (.rounds 0) i j s q q (0, 0)
  | again {i j s k : Nat} {q q1 q2 : Sta} {r : Rz} (h : Runs S ss .seq i j s q q1 (0, 0)) (t' : Runs S ss (.rounds k) i j s q1 q2 r) : Runs S ss (.rounds (k + 1)) i j s q q2 r
  | halt {i j s k : Nat} {q q1 : Sta} {r : Rz} (h : Runs S ss .seq i j s q q1 r) (hr : r.1 ≠ 0) : Runs S ss (.rounds (k + 1)) i j s q q1 r
  | plain {i : Nat} {q q' : Sta} {r : Rz} (hi : i < ss.length) (h2 : opAt ss i ≠ 2) (h5 : opAt ss i ≠ 5) (h8 : opAt ss i ≠ 8) (h : Basic S (stAt ss i) q q' r) : Runs S ss .one i i 1 q q' r
  | ifT {i e s : Nat} {q : Sta} {M : Int} (hi : i < ss.length) (h2 : opAt ss i = 2) (he : endOf ss i = (M, (e : Int))) (hie : i < e) (ht : trS S q (stAt ss i).exp ≠ 0) : Runs S ss .one i e s q q (2, trS S q (stAt ss i).exp)
  | if1 {i e s : Nat} {q q' : Sta} {r : Rz} (hi : i < ss.length) (h2 : opAt ss i = 2) (he : endOf ss i = (-1, (e : Int))) (ht : trS S q (stAt ss i).exp = 0) (hv : vlS S q (stAt ss i).exp ≠ 0) (h : Runs S ss .seq (i + 1) e s q q' r) : Runs S ss .one i e (1 + s) q q' r
  | if0 {i e s : Nat} {q : Sta} (hi : i < ss.length) (h2 : opAt ss i = 2) (he : endOf ss i = (-1, (e : Int))) (hie : i < e) (ht : trS S q (stAt ss i).exp = 0) (hv : vlS S q (stAt ss i).exp = 0) : Runs S ss .one i e s q q (0, 0)
  | then_ {i m e s s' : Nat} {q q' : Sta} {r : Rz} (hi : i < ss.length) (h2 : opAt ss i = 2) (he : endOf ss i = ((m : Int), (e : Int))) (ht : trS S q (stAt ss i).exp = 0) (hv : vlS S q (stAt ss i).exp ≠ 0) (h : Runs S ss .seq (i + 1) m s q q' r) : Runs S ss .one i e (1 + max s s') q q' r
  | else_ {i m e s s' : Nat} {q q' : Sta} {r : Rz} (hi : i < ss.length) (h2 : opAt ss i = 2) (he : endOf ss i = ((m : Int), (e : Int))) (ht : trS S q (stAt ss i).exp = 0) (hv : vlS S q (stAt ss i).exp = 0) (h : Runs S ss .seq (m + 1) e s' q q' r) : Runs S ss .one i e (1 + max s s') q q' r
  | loop {i e k s : Nat} {q q' : Sta} {r : Rz} (hi : i < ss.length) (h5 : opAt ss i = 5) (he : endOf ss i = (-1, (e : Int))) (hk : (stAt ss i).n = (k : Int)) (h4 : k ≤ 4) (h : Runs S ss (.rounds k) (i + 1) e s q q' r) : Runs S ss .one i e (1 + k * (1 + s)) q q' r
  | try_ {i m e s s' : Nat} {q q' : Sta} {r : Rz} (hi : i < ss.length) (h8 : opAt ss i = 8) (he : endOf ss i = ((m : Int), (e : Int))) (h : Runs S ss .seq (i + 1) m s q q' r) (hr : r ≠ (1, (stAt ss m).n)) : Runs S ss .one i e (1 + s + s') q q' r
  | catch_ {i m e s s' : Nat} {q q1 q' : Sta} {r : Rz} (hi : i < ss.length) (h8 : opAt ss i = 8) (he : endOf ss i = ((m : Int), (e : Int))) (h : Runs S ss .seq (i + 1) m s q q1 (1, (stAt ss m).n)) (h' : Runs S ss .seq (m + 1) e s' q1 q' r) : Runs S ss .one i e (1 + s + s') q q' r


theorem trS_of {S : Nat} {q : Sta} {ts : List Tm} (h : trS S q ts ≠ 0) : trS S q ts = 1 ∨ trS S q ts = 2 := by
  have := trapV_range S q.vars q.cells ts ts.length
  unfold trS at h ⊢
  omega
/-- What an end is. -/
def Fin (r : Rz) : Prop := r = (0, 0) ∨ (∃ n, r = (1, n)) ∨ r = (2, 1) ∨ r = (2, 2)
theorem fin_trap {S : Nat} {q : Sta} {ts : List Tm} (h : trS S q ts ≠ 0) : Fin (2, trS S q ts) := by
  rcases trS_of h with e | e <;> rw [e]
  · exact .inr (.inr (.inl rfl))
  · exact .inr (.inr (.inr rfl))
theorem Basic.fin {S : Nat} {s : Stm} {q q' : Sta} {r : Rz} (h : Basic S s q q' r) : Fin r := by
  cases h with
  | setT _ h | putA _ h | putE _ _ h | outT _ h => exact fin_trap h
  | putC => exact .inr (.inr (.inr rfl))
  | throw => exact .inr (.inl ⟨_, rfl⟩)
  | _ => exact .inl rfl
theorem Runs.fin {S : Nat} {ss : List Stm} {m : Mode} {i j s : Nat} {q q' : Sta} {r : Rz} (h : Runs S ss m i j s q q' r) : Fin r := by
  induction h with
  | plain _ _ _ _ h => exact h.fin
  | ifT _ _ _ _ h => exact fin_trap h
  | nil | zero | if0 => exact .inl rfl
  | _ => assumption
theorem Fin.go {r : Rz} (h : Fin r) : r = (0, 0) ∨ r.1 ≠ 0 := by
  rcases h with h | ⟨n, h⟩ | h | h <;> subst h
  · exact .inl rfl
  · exact .inr (fun h : (1 : Int) = 0 => by omega)
  · exact .inr (by decide)
  · exact .inr (by decide)
theorem Runs.le {S : Nat} {ss : List Stm} {m : Mode} {i j s : Nat} {q q' : Sta} {r : Rz} (h : Runs S ss m i j s q q' r) : (m = .seq ∨ m = .one → i ≤ j) ∧ (m = .one → j < ss.length) := by
  induction h with
  | nil i => exact ⟨fun _ => Nat.le_refl _, fun h => by cases h⟩
  | go _ _ ih1 ih2 => exact ⟨fun _ => by have := ih1.1 (.inr rfl); have := ih2.1 (.inl rfl); omega, fun h => by cases h⟩
  | stop _ _ hj ih => exact ⟨fun _ => by have := ih.1 (.inr rfl); omega, fun h => by cases h⟩
  | zero | again | halt => exact ⟨fun h => (by rcases h with h | h <;> cases h), fun h => by cases h⟩
  | plain hi => exact ⟨fun _ => Nat.le_refl _, fun _ => hi⟩
  | ifT hi _ he | if1 hi _ he | if0 hi _ he | then_ hi _ he | else_ hi _ he | loop hi _ he | try_ hi _ he | catch_ hi _ he =>
    have := end_in ss hi
    rw [he] at this
    rcases this with e | e
    · injection e with _ e; omega
    · simp only [] at e; exact ⟨fun _ => by omega, fun _ => by omega⟩
theorem Runs.seq_le {S : Nat} {ss : List Stm} {i j s : Nat} {q q' : Sta} {r : Rz} (h : Runs S ss .seq i j s q q' r) : i ≤ j := h.le.1 (.inl rfl)
theorem Runs.one_le {S : Nat} {ss : List Stm} {i j s : Nat} {q q' : Sta} {r : Rz} (h : Runs S ss .one i j s q q' r) : i ≤ j ∧ j < ss.length := ⟨h.le.1 (.inr rfl), h.le.2 rfl⟩
theorem end_places {ss : List Stm} {i e : Nat} {M : Int} (hi : i < ss.length) (he : endOf ss i = (M, (e : Int))) : i < e ∧ e < ss.length ∧ (M = -1 ∨ ((i : Int) < M ∧ M < e)) := by
  have := end_in ss hi
  rw [he] at this
  rcases this with q | q
  · injection q with _ q; omega
  · simp only [] at q; omega
/-- What is put out is at most the steps. -/
def roundS : Mode → Nat → Nat
  | .rounds k, s => k * (1 + s)
  | _, s => s
theorem Basic.outs {S : Nat} {s : Stm} {q q' : Sta} {r : Rz} (h : Basic S s q q' r) : q'.outs.length ≤ q.outs.length + 1 := by
  cases h <;> simp [setV, Go.Proofs.Ytalcambmmbilkaa.putC, outV]
theorem Runs.outs {S : Nat} {ss : List Stm} {m : Mode} {i j s : Nat} {q q' : Sta} {r : Rz} (h : Runs S ss m i j s q q' r) : q'.outs.length ≤ q.outs.length + roundS m s := by
  induction h with
  | plain _ _ _ _ h => exact h.outs
  | again _ _ ih1 ih2 => simp only [roundS] at ih1 ih2 ⊢; rw [Nat.add_mul]; omega
  | halt _ _ ih1 => simp only [roundS] at ih1 ⊢; rw [Nat.add_mul]; omega
  | nil | zero | ifT | if0 => exact Nat.le_add_right _ _
  | _ => simp only [roundS] at *; omega
theorem rounds_total {S : Nat} {ss : List Stm} {i j s : Nat} (H : ∀ q, ∃ q' r, Runs S ss .seq i j s q q' r) : ∀ (k : Nat) (q : Sta), ∃ q' r, Runs S ss (.rounds k) i j s q q' r
  | 0, q => ⟨q, _, .zero i j s q⟩
  | k + 1, q => by
    obtain ⟨q1, r1, h1⟩ := H q
    rcases h1.fin.go with hr | hr
    · subst hr
      obtain ⟨q2, r2, h2⟩ := rounds_total H k q1
      exact ⟨_, _, .again h1 h2⟩
    · exact ⟨_, _, .halt h1 hr⟩
theorem runs_next {S : Nat} {ss : List Stm} {i e j s t : Nat} {q : Sta} (h : ∃ q1 r, Runs S ss .one i e s q q1 r) (hj : e < j) (H : ∀ q, ∃ q' r, Runs S ss .seq (e + 1) j t q q' r) : ∃ q' r, Runs S ss .seq i j (s + t) q q' r := by
  obtain ⟨q1, r1, h1⟩ := h
  rcases h1.fin.go with hr | hr
  · subst hr
    obtain ⟨q2, r2, h2⟩ := H q1
    exact ⟨_, _, .go h1 h2⟩
  · exact ⟨_, _, .stop h1 hr hj⟩
/-- A part that takes steps has an end, whatever the state. -/
theorem runs_total {S : Nat} {ss : List Stm} {i j s : Nat} (h : Steps ss i j s) : ∀ q, ∃ q' r, Runs S ss .seq i j s q q' r := by
  induction h with
  | nil i => exact fun q => ⟨_, _, .nil i q⟩
  | @plain i j s hi h2 h5 h8 t ih =>
    intro q
    obtain ⟨q1, r1, hb⟩ := basic_total S (stAt ss i) q
    have := (steps_small t).1
    exact runs_next ⟨q1, r1, .plain hi h2 h5 h8 hb⟩ (by omega) ih
  | @one i e j s t hi h2 he p p2 ih1 ih2 =>
    intro q
    have h3 := (steps_small p2).1
    have h4 := end_places hi he
    refine runs_next (e := e) (s := 1 + s) ?_ (by omega) ih2
    by_cases ht : trS S q (stAt ss i).exp = 0
    case neg => exact ⟨_, _, .ifT hi h2 he h4.1 ht⟩
    by_cases hv : vlS S q (stAt ss i).exp = 0
    · exact ⟨_, _, .if0 hi h2 he h4.1 ht hv⟩
    · obtain ⟨q1, r1, h⟩ := ih1 q
      exact ⟨_, _, .if1 hi h2 he ht hv h⟩
  | @two i m e j s s' t hi h2 he p p' p2 ih1 ih1' ih2 =>
    intro q
    have h3 := (steps_small p2).1
    have h4 := end_places hi he
    refine runs_next (e := e) (s := 1 + max s s') ?_ (by omega) ih2
    by_cases ht : trS S q (stAt ss i).exp = 0
    case neg => exact ⟨_, _, .ifT hi h2 he h4.1 ht⟩
    by_cases hv : vlS S q (stAt ss i).exp = 0
    · obtain ⟨q1, r1, h⟩ := ih1' q
      exact ⟨_, _, .else_ hi h2 he ht hv h⟩
    · obtain ⟨q1, r1, h⟩ := ih1 q
      exact ⟨_, _, .then_ hi h2 he ht hv h⟩
  | @loop i e j k s t hi h5 he hk h4 p p2 ih1 ih2 =>
    intro q
    have h3 := (steps_small p2).1
    refine runs_next (e := e) (s := 1 + k * (1 + s)) ?_ (by omega) ih2
    obtain ⟨q1, r1, h⟩ := rounds_total ih1 k q
    exact ⟨_, _, .loop hi h5 he hk h4 h⟩
  | @attempt i m e j s s' t hi h8 he p p' p2 ih1 ih1' ih2 =>
    intro q
    have h3 := (steps_small p2).1
    refine runs_next (e := e) (s := 1 + s + s') ?_ (by omega) ih2
    obtain ⟨q1, r1, h⟩ := ih1 q
    by_cases hr : r1 = (1, (stAt ss m).n)
    · subst hr
      obtain ⟨q2, r2, h'⟩ := ih1' q1
      exact ⟨_, _, .catch_ hi h8 he h h'⟩
    · exact ⟨_, _, .try_ hi h8 he h hr⟩
/-- A part, cut out, runs as it did. -/
theorem runs_seg {S : Nat} {ss : List Stm} {lo hi : Nat} (h1 : lo ≤ hi) (h2 : hi ≤ ss.length) {m : Mode} {i j s : Nat} {q q' : Sta} {r : Rz} (h : Runs S ss m i j s q q' r) : ∀ i' j', i = lo + i' → j = lo + j' → j ≤ hi → (m = .one → j < hi) → Runs S (seg ss lo hi) m i' j' s q q' r := by
  have hl := seg_len h1 h2
  induction h with
  | nil i =>
    intro i' j' e1 e2 _ _
    obtain rfl : i' = j' := by omega
    exact .nil _ _
  | @go i e j s t q q1 q2 r h t' ih1 ih2 =>
    intro i' j' e1 e2 hj _
    have := h.one_le
    have := t'.seq_le
    obtain ⟨e', rfl⟩ : ∃ e', e = lo + e' := ⟨e - lo, by omega⟩
    exact .go (ih1 i' e' e1 rfl (by omega) (fun _ => by omega)) (ih2 (e' + 1) j' (by omega) e2 hj (fun h => by cases h))
  | @stop i e j s t q q1 r h hr hj' ih =>
    intro i' j' e1 e2 hj _
    have := h.one_le
    obtain ⟨e', rfl⟩ : ∃ e', e = lo + e' := ⟨e - lo, by omega⟩
    exact .stop (ih i' e' e1 rfl (by omega) (fun _ => by omega)) hr (by omega)
  | zero i j s q => exact fun i' j' _ _ _ _ => .zero i' j' s q
  | again h t' ih1 ih2 => exact fun i' j' e1 e2 hj _ => .again (ih1 i' j' e1 e2 hj (fun h => by cases h)) (ih2 i' j' e1 e2 hj (fun h => by cases h))
  | halt h hr ih => exact fun i' j' e1 e2 hj _ => .halt (ih i' j' e1 e2 hj (fun h => by cases h)) hr
  | @plain i q q' r hi' g2 g5 g8 h =>
    intro i' j' e1 e2 hj hm
    have := hm rfl
    obtain rfl : i' = j' := by omega
    subst e1
    have hop := seg_op (ss := ss) (lo := lo) (hi := hi) (i := i') (by omega)
    have hat := seg_at (ss := ss) (lo := lo) (hi := hi) (i := i') (by omega)
    exact .plain (by omega) (by rw [hop]; exact g2) (by rw [hop]; exact g5) (by rw [hop]; exact g8) (by rw [hat]; exact h)
  | @ifT i e s q M hi' g2 he hie ht =>
    intro i' j' e1 e2 hj hm
    have := hm rfl
    subst e1 e2
    have hop := seg_op (ss := ss) (lo := lo) (hi := hi) (i := i') (by omega)
    have hat := seg_at (ss := ss) (lo := lo) (hi := hi) (i := i') (by omega)
    have hp := end_places hi' he
    rw [← hat] at ht ⊢
    rcases hp.2.2 with e | e
    · subst e
      exact .ifT (by omega) (by rw [hop]; exact g2) ((seg_end h1 h2 (by omega)).1 j' he (by omega)) (by omega) ht
    · obtain ⟨m', rfl⟩ : ∃ m' : Nat, M = ((lo + m' : Nat) : Int) := ⟨(M - lo).toNat, by omega⟩
      exact .ifT (by omega) (by rw [hop]; exact g2) ((seg_end h1 h2 (by omega)).2 m' j' he (by omega)) (by omega) ht
  | @if1 i e s q q' r hi' g2 he ht hv h ih =>
    intro i' j' e1 e2 hj hm
    have := hm rfl
    subst e1 e2
    have hp := end_places hi' he
    have hop := seg_op (ss := ss) (lo := lo) (hi := hi) (i := i') (by omega)
    have hat := seg_at (ss := ss) (lo := lo) (hi := hi) (i := i') (by omega)
    exact .if1 (by omega) (by rw [hop]; exact g2) ((seg_end h1 h2 (by omega)).1 j' he (by omega)) (by rw [hat]; exact ht) (by rw [hat]; exact hv) (ih (i' + 1) j' (by omega) rfl (by omega) (fun h => by cases h))
  | @if0 i e s q hi' g2 he hie ht hv =>
    intro i' j' e1 e2 hj hm
    have := hm rfl
    subst e1 e2
    have hop := seg_op (ss := ss) (lo := lo) (hi := hi) (i := i') (by omega)
    have hat := seg_at (ss := ss) (lo := lo) (hi := hi) (i := i') (by omega)
    exact .if0 (by omega) (by rw [hop]; exact g2) ((seg_end h1 h2 (by omega)).1 j' he (by omega)) (by omega) (by rw [hat]; exact ht) (by rw [hat]; exact hv)
  | @then_ i m e s s' q q' r hi' g2 he ht hv h ih =>
    intro i' j' e1 e2 hj hm
    have := hm rfl
    subst e1 e2
    have hp := end_places hi' he
    obtain ⟨m', rfl⟩ : ∃ m', m = lo + m' := ⟨m - lo, by omega⟩
    have hop := seg_op (ss := ss) (lo := lo) (hi := hi) (i := i') (by omega)
    have hat := seg_at (ss := ss) (lo := lo) (hi := hi) (i := i') (by omega)
    exact .then_ (by omega) (by rw [hop]; exact g2) ((seg_end h1 h2 (by omega)).2 m' j' he (by omega)) (by rw [hat]; exact ht) (by rw [hat]; exact hv) (ih (i' + 1) m' (by omega) rfl (by omega) (fun h => by cases h))
  | @else_ i m e s s' q q' r hi' g2 he ht hv h ih =>
    intro i' j' e1 e2 hj hm
    have := hm rfl
    subst e1 e2
    have hp := end_places hi' he
    obtain ⟨m', rfl⟩ : ∃ m', m = lo + m' := ⟨m - lo, by omega⟩
    have hop := seg_op (ss := ss) (lo := lo) (hi := hi) (i := i') (by omega)
    have hat := seg_at (ss := ss) (lo := lo) (hi := hi) (i := i') (by omega)
    exact .else_ (by omega) (by rw [hop]; exact g2) ((seg_end h1 h2 (by omega)).2 m' j' he (by omega)) (by rw [hat]; exact ht) (by rw [hat]; exact hv) (ih (m' + 1) j' (by omega) rfl (by omega) (fun h => by cases h))
  | @loop i e k s q q' r hi' g5 he hk h4 h ih =>
    intro i' j' e1 e2 hj hm
    have := hm rfl
    subst e1 e2
    have hp := end_places hi' he
    have hop := seg_op (ss := ss) (lo := lo) (hi := hi) (i := i') (by omega)
    have hat := seg_at (ss := ss) (lo := lo) (hi := hi) (i := i') (by omega)
    exact .loop (by omega) (by rw [hop]; exact g5) ((seg_end h1 h2 (by omega)).1 j' he (by omega)) (by rw [hat]; exact hk) h4 (ih (i' + 1) j' (by omega) rfl (by omega) (fun h => by cases h))
  | @try_ i m e s s' q q' r hi' g8 he h hr ih =>
    intro i' j' e1 e2 hj hm
    have := hm rfl
    subst e1 e2
    have hp := end_places hi' he
    obtain ⟨m', rfl⟩ : ∃ m', m = lo + m' := ⟨m - lo, by omega⟩
    have hop := seg_op (ss := ss) (lo := lo) (hi := hi) (i := i') (by omega)
    have hat := seg_at (ss := ss) (lo := lo) (hi := hi) (i := m') (by omega)
    exact .try_ (by omega) (by rw [hop]; exact g8) ((seg_end h1 h2 (by omega)).2 m' j' he (by omega)) (ih (i' + 1) m' (by omega) rfl (by omega) (fun h => by cases h)) (by rw [hat]; exact hr)
  | @catch_ i m e s s' q q1 q' r hi' g8 he h h' ih ih' =>
    intro i' j' e1 e2 hj hm
    have := hm rfl
    subst e1 e2
    have hp := end_places hi' he
    obtain ⟨m', rfl⟩ : ∃ m', m = lo + m' := ⟨m - lo, by omega⟩
    have hop := seg_op (ss := ss) (lo := lo) (hi := hi) (i := i') (by omega)
    have hat := seg_at (ss := ss) (lo := lo) (hi := hi) (i := m') (by omega)
    rw [← hat] at ih
    exact .catch_ (by omega) (by rw [hop]; exact g8) ((seg_end h1 h2 (by omega)).2 m' j' he (by omega)) (ih (i' + 1) m' (by omega) rfl (by omega) (fun h => by cases h)) (ih' (m' + 1) j' (by omega) rfl (by omega) (fun h => by cases h))
theorem runs_part {S : Nat} {ss : List Stm} {i j s : Nat} {q q' : Sta} {r : Rz} (h : Runs S ss .seq i j s q q' r) (hj : j ≤ ss.length) : Runs S (seg ss i j) .seq 0 (j - i) s q q' r :=
  runs_seg h.seq_le hj h 0 (j - i) rfl (by have := h.seq_le; omega) (Nat.le_refl _) (fun h => by cases h)
end Go.Proofs.Ytalcambmmbilkaa
/- The laws' own helpers on environments: toInt64SS, toEnv, eqInt64SS, eqEnv; what szInt64SS, szEnv answer; what an argument that is an environment is. -/
namespace Go.Proofs.Ytalcambmmbilkaa
open Go.RowKit Go.ChangeShapes Go.WideShapes

/-- A slice of slices of numbers of the call's own, from block B on. -/
def OwnIS (w : World) (B : Nat) (a : Option Addr) (n c : Nat) (rs : List Sl) (css : List (List Int)) : Prop :=
  w.ownsRow B 28 1 (.slice a n c) n (rs.map slV) ∧ n ≤ 1048576 ∧ css.length = n ∧ ∀ i, i < n → Own w B (slAt rs i).1 (slAt rs i).2.1 (slAt rs i).2.2 (intsAt css i)
section
variable {w w' : World} {B : Nat} {a : Option Addr} {n c : Nat} {rs : List Sl} {css : List (List Int)}
theorem OwnIS.len (h : OwnIS w B a n c rs css) : rs.length = n := by have := h.1.1; simpa using this
theorem OwnIS.reads (h : OwnIS w B a n c rs css) : IntsSS w a n rs css := by
  have hlen := h.len
  obtain ⟨ho, hn, ht, hi⟩ := h
  refine ⟨hlen, ht, hn, fun hp => ?_, fun i h' => (hi i h').ints⟩
  rcases ho.2 with ⟨_, h0⟩ | ⟨g, cap, cur, e, _, hh, _⟩
  · exact absurd hp (by omega)
  · have ea : a = some ⟨g, 0, none⟩ := by injection e
    subst ea
    refine ⟨g, 0, rfl, (ho.lt g rfl).2, fun i h' => ?_⟩
    rw [Nat.zero_add, ho.cellAt i (by omega)]
    simp [slAt, List.getD_eq_getElem?_getD, List.getElem?_eq_getElem (show i < rs.length by omega)]
theorem OwnIS.below (h : OwnIS w B a n c rs css) (hb : Below w.heap.size w w') : OwnIS w' B a n c rs css :=
  ⟨h.1.kept (row := none) ⟨hb.os, hb.tape, hb.output, hb.size, fun k hk _ => hb.block k hk⟩ (by cases a <;> simp [Value.ownBlock]), h.2.1, h.2.2.1, fun i hi => (h.2.2.2 i hi).below hb⟩
theorem OwnIS.set (h : OwnIS w B a n c rs css) {b j : Nat} (hb : b < B) (v : Value) : OwnIS (w.setCell ⟨b, j, none⟩ v) B a n c rs css := by
  refine ⟨h.1.kept (grown_set _ _ _ _) ?_, h.2.1, h.2.2.1, fun i hi => (h.2.2.2 i hi).set hb v⟩
  cases hv : (Value.slice a n c).ownBlock with
  | none => exact .inl rfl
  | some g =>
    refine .inr fun e => ?_
    have := (h.1.lt g hv).1
    injection e with e
    omega
end
theorem info_ints : (Try.prog.info? 28).map (fun i => (i.zero, i.size, i.bytes)) = some (some (.slice none 0 0), 1, 24) := by kernel_rfl
/-- The first rows qs, empty ones behind. -/
def CopyR (qs : List Sl) (n : Nat) : List Sl := qs ++ List.replicate (n - qs.length) (none, 0, 0)
theorem copyR_succ {qs : List Sl} {n : Nat} {r : Sl} (h : qs.length < n) : (CopyR qs n).set qs.length r = CopyR (qs ++ [r]) n := by
  unfold CopyR
  rw [List.set_append_right _ _ (Nat.le_refl _), Nat.sub_self]
  obtain ⟨m, hm⟩ : ∃ m, n - qs.length = m + 1 := ⟨n - qs.length - 1, by omega⟩
  rw [hm, List.replicate_succ, List.set_cons_zero, List.length_append, List.length_singleton, show n - (qs.length + 1) = m by omega, List.append_assoc]
  rfl
theorem copyR_all {qs : List Sl} {n : Nat} (h : qs.length = n) : CopyR qs n = qs := by simp [CopyR, h]
theorem own_putR {w : World} {B g n cap : Nat} {rs : List Sl} (h : w.ownsRow B 28 1 (.slice (some ⟨g, 0, none⟩) n cap) n (rs.map slV)) (k : Nat) (r : Sl) :
    (w.setCell ⟨g, k, none⟩ (slV r)).ownsRow B 28 1 (.slice (some ⟨g, 0, none⟩) n cap) n ((rs.set k r).map slV) := by
  rw [List.map_set]; exact (h.stored k _).1
theorem own_cellR {w : World} {B g n cap : Nat} {rs : List Sl} (h : w.ownsRow B 28 1 (.slice (some ⟨g, 0, none⟩) n cap) n (rs.map slV)) {k : Nat} (hk : k < n) : w.cell? ⟨g, k, none⟩ = some (slV (slAt rs k)) := by
  have hl : rs.length = n := by have := h.1; simpa using this
  rw [h.cellAt k (by omega)]
  simp [slAt, List.getD_eq_getElem?_getD, List.getElem?_eq_getElem (show k < rs.length by omega)]
def RowsI (w : World) (B : Nat) (qs : List Sl) (css : List (List Int)) : Prop := ∀ i, i < qs.length → Own w B (slAt qs i).1 (slAt qs i).2.1 (slAt qs i).2.2 (intsAt css i)
theorem RowsI.succ {w w' : World} {B : Nat} {qs : List Sl} {css : List (List Int)} {r : Sl} (h : RowsI w B qs css) (hb : Below w.heap.size w w') (hr : Own w' w.heap.size r.1 r.2.1 r.2.2 (intsAt css qs.length)) (hB : B ≤ w.heap.size) : RowsI w' B (qs ++ [r]) css := by
  intro i hi
  rcases Nat.lt_or_ge i qs.length with hlt | hge
  · rw [show slAt (qs ++ [r]) i = slAt qs i from getD_left _ _ _ _ hlt]
    exact (h i hlt).below hb
  · have e : i = qs.length := by simp at hi; omega
    subst e
    rw [show slAt (qs ++ [r]) qs.length = r from getD_last _ _ _ _ rfl]
    exact hr.base hB
theorem RowsI.set {w : World} {B : Nat} {qs : List Sl} {css : List (List Int)} (h : RowsI w B qs css) {b j : Nat} (hb : b < B) (v : Value) : RowsI (w.setCell ⟨b, j, none⟩ v) B qs css := fun i hi => (h i hi).set hb v
def MadeIS (w : World) (css : List (List Int)) (e : Ending) (w' : World) : Prop := ∃ a n c rs, e = .returned (.slice a n c) ∧ OwnIS w' w.heap.size a n c rs css ∧ Below w.heap.size w w'

def EqIS (xss yss : List (List Int)) (k : Nat) : Prop := ∀ i, i < k → intsAt xss i = intsAt yss i
theorem EqIS.succ {xss yss : List (List Int)} {k : Nat} (h : EqIS xss yss k) (e : intsAt xss k = intsAt yss k) : EqIS xss yss (k + 1) := by
  intro i hi
  rcases Nat.lt_or_ge i k with hlt | hge
  · exact h i hlt
  · have : i = k := by omega
    subst this; exact e
theorem eqIS_all {xss yss : List (List Int)} (hl : xss.length = yss.length) (h : EqIS xss yss xss.length) : xss = yss := by
  apply List.ext_getElem hl
  intro i h1 h2
  have := h i h1
  simpa [intsAt, List.getD_eq_getElem?_getD, h1, h2] using this
set_option maxHeartbeats 800000 in
theorem eqInt64SS_any (a b : Option Addr) (n m c d : Nat) (rs qs : List Sl) (xss yss : List (List Int)) (w : World) (hx : IntsSS w a n rs xss) (hy : IntsSS w b m qs yss) :
    Calls Try.prog 71 #[.slice a n c, .slice b m d] w fun e w' => e = .returned (.bool (decide (xss = yss))) ∧ Below w.heap.size w w' := by
  have HL := Lib.hid hx.2.1
  have HM := Lib.hid hy.2.1
  have hbd := hx.2.2.1
  have hbe := hy.2.2.1
  by_cases hnm : n = m
  · subst hnm
    have hne0 : ((n : Int) != (n : Int)) = false := by simp
    go_enter Try.func71, Try.ntmps71
    go_wp2
    go_loopw [5] (fun i wr => ∃ k : Nat, k ≤ n ∧ i = .int .i64 k ∧ EqIS xss yss k ∧ Below w.heap.size w wr) (fun i _ => n - (intOf i).toNat)
    case atStart => exact ⟨0, Nat.zero_le _, rfl, fun i hi => absurd hi (by omega), Below.refl _ _⟩
    case round =>
      obtain ⟨k, hk, rfl, hg, hbel⟩ := hrel
      by_cases hlt : k < n
      · obtain ⟨b1, o1, a1, n1, c1, rfl, hb1, hxk, hc1, hT1⟩ := (hx.below hbel).at_ hlt
        obtain ⟨b2, o2, a2, n2, c2, rfl, hb2, hyk, hc2, hT2⟩ := (hy.below hbel).at_ hlt
        have f1 := lat_cell hb1 hc1
        have f2 := lat_cell hb2 hc2
        clear hc1 hc2
        obtain ⟨q, HQ⟩ : ∃ q, Hid (decide (intsAt xss k = intsAt yss k) = q) := ⟨_, rfl⟩
        have hcon : ∀ p : Lat wr, Calls Try.prog 36 #[.slice a1 n1 c1, .slice a2 n2 c2] p.wd fun e w' => e = .returned (.bool q) ∧ Below p.wd.heap.size p.wd w' := fun p => by
          rw [← HQ.out]
          exact (eqInt64S_any _ _ _ _ _ _ _ _ _ (hT1.below p.ok) (hT2.below p.ok)).mono fun e w' ⟨he, j, hj⟩ => ⟨he, by rw [hj]; exact below_dn (Below.refl _ _) j⟩
        have HC := Lib.hid hcon
        clear hcon hT1 hT2
        cases q with
        | true =>
          have HE := Lib.hid (of_decide_eq_true HQ.out)
          go_wp2
          refine wp_region_lat (by kernel_rfl) (by kernel_rfl) ?_
          repeat (quiet_step ((go_at_call 36; exact lat_calls (HC.out _))))
          refine wpQuiet_nil ?_
          intro _ hw'
          obtain ⟨⟨wq, hwq⟩, hw''⟩ := hw'
          subst hw''
          have ht := hbel.trans (hwq.mono hbel.size)
          clear f1 f2 HC
          go_wp2
          go_roundw
          case rel => exact ⟨k + 1, by omega, by go_num, hg.succ HE.out, ht⟩
          case measure => simp [intOf]; omega
        | false =>
          have HE := Lib.hid (of_decide_eq_false HQ.out)
          go_wp2
          refine wp_region_lat (by kernel_rfl) (by kernel_rfl) ?_
          repeat (quiet_step ((go_at_call 36; exact lat_calls (HC.out _))))
          refine wpQuiet_nil ?_
          intro _ hw'
          obtain ⟨⟨wq, hwq⟩, hw''⟩ := hw'
          subst hw''
          have ht := hbel.trans (hwq.mono hbel.size)
          clear f1 f2 HC
          go_wp2
          go_ret
          exact ⟨ret_bool (decide_eq_false (fun h => HE.out (by rw [h]))).symm, ht⟩
      · obtain rfl : n = k := by omega
        go_wp2
        go_ret
        exact ⟨ret_bool (decide_eq_true (eqIS_all (HL.out.trans HM.out.symm) (by rw [HL.out]; exact hg))).symm, hbel⟩
  · have hne : ((n : Int) != (m : Int)) = true := by simp; omega
    go_enter Try.func71, Try.ntmps71
    go_wp2
    go_ret
    exact ⟨ret_bool (decide_eq_false (fun h => hnm (by rw [← HL.out, ← HM.out, h]))).symm, Below.refl _ _⟩
structure EBox (w wi : World) (c0 c1 : List Value) : Prop where
  one : Blk wi w.heap.size 60 c0
  two : Blk wi (w.heap.size + 1) 60 c1
  bel : Below w.heap.size w wi
theorem EBox.below {w wi wj : World} {c0 c1 : List Value} (h : EBox w wi c0 c1) (hb : Below wi.heap.size wi wj) : EBox w wj c0 c1 :=
  ⟨h.one.below hb h.one.lt, h.two.below hb h.two.lt, h.bel.trans (hb.mono h.bel.size)⟩
theorem ebox_new (w : World) (c0 c1 : List Value) : EBox w ((w.alloc (.cells c0.toArray 60)).alloc (.cells c1.toArray 60)) c0 c1 :=
  ⟨(Blk.new w _ _).alloc _, by simpa using Blk.new (w.alloc _) 60 c1, ((Below.refl _ _).alloc (Nat.le_refl _) _).alloc (by simp) _⟩
/-- eqEnv of what reads alike. -/
theorem eqEnv_same (r q : ERow) (v : Envr) (w : World) (h : EnvAt w r v) (h' : EnvAt w q v) :
    Calls Try.prog 34 #[envV r, envV q] w fun e w' => e = .returned (.bool true) ∧ Below w.heap.size w w' := by
  obtain ⟨⟨a1, n1, c1⟩, ⟨a2, n2, c2⟩, rows⟩ := r
  obtain ⟨⟨b1, m1, d1⟩, ⟨b2, m2, d2⟩, rows'⟩ := q
  obtain ⟨h1, h2⟩ := h
  obtain ⟨h1', h2'⟩ := h'
  simp only [] at h1 h2 h1' h2'
  show Calls Try.prog 34 #[.agg #[.slice a1 n1 c1, .slice a2 n2 c2], .agg #[.slice b1 m1 d1, .slice b2 m2 d2]] w _
  obtain ⟨wa, HW⟩ : ∃ wa, Hid (wa = ((w.alloc (.cells #[.slice a1 n1 c1, .slice a2 n2 c2] 60)).alloc (.cells #[.slice b1 m1 d1, .slice b2 m2 d2] 60))) := ⟨_, rfl⟩
  have BX : EBox w wa [.slice a1 n1 c1, .slice a2 n2 c2] [.slice b1 m1 d1, .slice b2 m2 d2] := by rw [HW.out]; exact ebox_new w _ _
  go_enter Try.func34, Try.ntmps34
  go_wp2_with fail
  rw [← HW.out]
  refine (eqInt64S_any _ _ _ _ _ _ _ _ _ (h1.below BX.bel) (h1'.below BX.bel)).mono ?_
  rintro e w1 ⟨rfl, j, rfl⟩
  have hbj : Below wa.heap.size wa (wa.drewN j) := below_dn (Below.refl _ _) j
  obtain ⟨w1, HW1⟩ : ∃ w1, Hid (wa.drewN j = w1) := ⟨_, rfl⟩
  rw [HW1.out] at hbj ⊢
  have B1 := BX.below hbj
  rw [decide_eq_true rfl]
  clear BX HW HW1 hbj h1 h1'
  have f0 := B1.one.cell (j := 1) rfl
  have f1 := B1.two.cell (j := 1) rfl
  go_wp2_with fail
  refine (eqInt64SS_any _ _ _ _ _ _ _ _ _ _ _ (h2.below B1.bel) (h2'.below B1.bel)).mono ?_
  rintro e w2 ⟨rfl, hb2⟩
  have B2 := B1.below hb2
  rw [decide_eq_true rfl]
  clear B1 hb2 f0 f1
  go_wp2
  go_ret
  exact ⟨rfl, B2.bel⟩
end Go.Proofs.Ytalcambmmbilkaa
/- Slices of Stmts of the call's own whose Stmts are not told; 'append' to them. -/
namespace Go.Proofs.Ytalcambmmbilkaa
open Go.RowKit

/-- A slice of Stmts of the call's own, from block B on; its Stmts' slices lie from B on, too. -/
def OwnS (w : World) (B : Nat) (a : Option Addr) (n c : Nat) (rs : List SRow) (ss : List Stm) : Prop :=
  w.ownsRow B 37 4 (.slice a n c) n (flatS rs) ∧ n ≤ 1048576 ∧ ss.length = n ∧ ∀ i, i < n → OwnStm w B (srAt rs i) (stAt ss i)
section
variable {w w' : World} {B : Nat} {r : SRow} {s : Stm} {a : Option Addr} {n c : Nat} {rs : List SRow} {ss : List Stm}
theorem OwnS.len (h : OwnS w B a n c rs ss) : rs.length = n := by have := h.1.1; rw [flatS_len] at this; omega
theorem OwnS.below (h : OwnS w B a n c rs ss) (hb : Below w.heap.size w w') : OwnS w' B a n c rs ss :=
  ⟨h.1.kept (row := none) ⟨hb.os, hb.tape, hb.output, hb.size, fun k hk _ => hb.block k hk⟩ (by cases a <;> simp [Value.ownBlock]), h.2.1, h.2.2.1, fun i hi => (h.2.2.2 i hi).below hb⟩
theorem OwnS.base {B' : Nat} (h : OwnS w B a n c rs ss) (hB : B' ≤ B) : OwnS w B' a n c rs ss := by
  refine ⟨⟨h.1.1, ?_⟩, h.2.1, h.2.2.1, fun i hi => (h.2.2.2 i hi).base hB⟩
  rcases h.1.2 with hn | ⟨g, cap, cur, e, hb, r⟩
  · exact .inl hn
  · exact .inr ⟨g, cap, cur, e, by omega, r⟩
theorem OwnS.reads (h : OwnS w B a n c rs ss) : Stmts w a n rs ss := by
  have hlen := h.len
  obtain ⟨ho, hn, hs, hi⟩ := h
  refine ⟨hlen, hs, hn, fun hp => ?_, fun i h' => (hi i h').reads⟩
  rcases ho.2 with ⟨_, h0⟩ | ⟨g, cap, cur, e, _, hh, _⟩
  · exact absurd hp (by omega)
  · have ea : a = some ⟨g, 0, none⟩ := by injection e
    subst ea
    refine ⟨g, 0, rfl, (ho.lt g rfl).2, fun i h' => ?_⟩
    have e0 := flatS_at rs i 0 (by omega) (by omega)
    have e1 := flatS_at rs i 1 (by omega) (by omega)
    have e2 := flatS_at rs i 2 (by omega) (by omega)
    have e3 := flatS_at rs i 3 (by omega) (by omega)
    rw [Nat.zero_add, ho.cellAt (i * 4) (by omega), ho.cellAt (i * 4 + 1) (by omega), ho.cellAt (i * 4 + 2) (by omega), ho.cellAt (i * 4 + 3) (by omega)]
    exact ⟨e0, e1, e2, e3⟩
theorem OwnS.block (h : OwnS w B a n c rs ss) : ∀ g, (Value.slice a n c).ownBlock = some g → B ≤ g ∧ g < w.heap.size := h.1.lt
theorem OwnS.cap (h : OwnS w B a n c rs ss) : n ≤ c := by
  rcases h.1.2 with ⟨e1, h0⟩ | ⟨g, cap, cur, e1, hb, hg, hnc, _⟩
  · injection e1 with _ e2 e3; omega
  · injection e1 with _ e2 e3; omega
/-- An elder block turns. -/
theorem OwnT.old {p : Nat} {ts : List Tm} (h : OwnT w B a n c ts) (hp : p < B) (hg : w.grownBy w' (some p)) : OwnT w' B a n c ts :=
  h.apart hg (fun g hgg e => by have := (h.block g hgg).1; injection e with e; omega)
theorem OwnStm.old {p : Nat} (h : OwnStm w B r s) (hp : p < B) (hg : w.grownBy w' (some p)) : OwnStm w' B r s :=
  ⟨h.1, h.2.1, h.2.2.1, h.2.2.2.1, h.2.2.2.2.1.old hp hg, h.2.2.2.2.2.old hp hg⟩
theorem OwnS.old {p : Nat} (h : OwnS w B a n c rs ss) (hp : p < B) (hg : w.grownBy w' (some p)) : OwnS w' B a n c rs ss := by
  refine ⟨h.1.kept hg ?_, h.2.1, h.2.2.1, fun i hi => (h.2.2.2 i hi).old hp hg⟩
  cases hv : (Value.slice a n c).ownBlock with
  | none => exact .inl rfl
  | some g => exact .inr (fun e => by have := (h.block g hv).1; injection e with e; omega)
/-- The row of Stmts itself grows: a Stmt's Terms lie elsewhere. -/
theorem addr_add (g j : Nat) : (⟨g, 0, none⟩ : Addr).add j = ⟨g, j, none⟩ := by by_cases h : j = 0 <;> simp [Addr.add, h]
theorem kinds_apart {g : Nat} {ts : List Tm} {b : Option Addr} {m d : Nat} {xs : List Value} (h : OwnT w B b m d ts) (hr : w.ownsRow B 37 4 (.slice a n c) n xs) (hg : (Value.slice a n c).ownBlock = some g) : (Value.slice b m d).ownBlock ≠ some g := by
  intro e
  obtain ⟨c1, f1, h1⟩ := Lib.ownsRow_kind h.1 g e
  obtain ⟨c2, f2, h2⟩ := Lib.ownsRow_kind hr g hg
  rw [h1] at h2
  injection h2 with h2
  injection h2 with _ h2 _
  exact absurd h2 (by decide)
theorem OwnT.rowGrew {ts : List Tm} {b : Option Addr} {m d : Nat} {xs : List Value} (h : OwnT w B b m d ts) (hr : w.ownsRow B 37 4 (.slice a n c) n xs) (hg : w.grownBy w' (Value.slice a n c).ownBlock) : OwnT w' B b m d ts :=
  h.apart hg (fun _ e e' => kinds_apart h hr e' e)
theorem OwnStm.rowGrew {xs : List Value} (h : OwnStm w B r s) (hr : w.ownsRow B 37 4 (.slice a n c) n xs) (hg : w.grownBy w' (Value.slice a n c).ownBlock) : OwnStm w' B r s :=
  ⟨h.1, h.2.1, h.2.2.1, h.2.2.2.1, h.2.2.2.2.1.rowGrew hr hg, h.2.2.2.2.2.rowGrew hr hg⟩
end
theorem srAt_append_left {a b : List SRow} {k : Nat} (h : k < a.length) : srAt (a ++ b) k = srAt a k := by simp [srAt, List.getD_eq_getElem?_getD, List.getElem?_append_left h]
theorem srAt_append_right {a b : List SRow} {k : Nat} (h : a.length ≤ k) : srAt (a ++ b) k = srAt b (k - a.length) := by simp [srAt, List.getD_eq_getElem?_getD, List.getElem?_append_right h]
theorem stAt_append_left {a b : List Stm} {k : Nat} (h : k < a.length) : stAt (a ++ b) k = stAt a k := by simp [stAt, List.getD_eq_getElem?_getD, List.getElem?_append_left h]
theorem stAt_append_right {a b : List Stm} {k : Nat} (h : a.length ≤ k) : stAt (a ++ b) k = stAt b (k - a.length) := by simp [stAt, List.getD_eq_getElem?_getD, List.getElem?_append_right h]
theorem flatS_one (us : List SRow) : ∀ u ∈ flatS us, u.oneCell' = true := by
  intro u hu
  obtain ⟨r, _, hr⟩ := List.mem_flatMap.1 hu
  simp only [srowV, List.mem_cons, List.not_mem_nil, or_false] at hr
  rcases hr with rfl | rfl | rfl | rfl <;> rfl

/-- .. whatever its Stmts are. -/
def AnyS (w : World) (B : Nat) (a : Option Addr) (n c : Nat) : Prop := ∃ rs ss, OwnS w B a n c rs ss
/-- Some Stmts at an address, to be taken over. -/
def News (w : World) (B : Nat) (ad : Addr) (m : Nat) : Prop :=
  ∃ (us : List SRow) (vs : List Stm), us.length = m ∧ vs.length = m ∧ (∀ j u, (flatS us)[j]? = some u → w.cell? (ad.add j) = some u) ∧ ∀ i, i < m → OwnStm w B (srAt us i) (stAt vs i)
section
variable {w w' : World} {B : Nat} {a : Option Addr} {n c : Nat}
theorem AnyS.below (h : AnyS w B a n c) (hb : Below w.heap.size w w') : AnyS w' B a n c := by obtain ⟨rs, ss, h⟩ := h; exact ⟨rs, ss, h.below hb⟩
theorem AnyS.alloc (h : AnyS w B a n c) (o : Obj) : AnyS (w.alloc o) B a n c := h.below ((Below.refl _ _).alloc (Nat.le_refl _) o)
theorem AnyS.base {B' : Nat} (h : AnyS w B a n c) (hB : B' ≤ B) : AnyS w B' a n c := by obtain ⟨rs, ss, h⟩ := h; exact ⟨rs, ss, h.base hB⟩
theorem AnyS.block (h : AnyS w B a n c) : ∀ g, (Value.slice a n c).ownBlock = some g → B ≤ g ∧ g < w.heap.size := by obtain ⟨rs, ss, h⟩ := h; exact h.block
theorem AnyS.old {p : Nat} (h : AnyS w B a n c) (hp : p < B) (hg : w.grownBy w' (some p)) : AnyS w' B a n c := by obtain ⟨rs, ss, h⟩ := h; exact ⟨rs, ss, h.old hp hg⟩
theorem AnyS.some_ (h : AnyS w B a n c) (hp : 1 ≤ n) : ∃ g, a = some ⟨g, 0, none⟩ := by
  obtain ⟨rs, ss, h⟩ := h
  rcases h.1.2 with ⟨_, h0⟩ | ⟨g, cap, cur, e, _⟩
  · omega
  · exact ⟨g, by injection e⟩
theorem AnyS.news {g : Nat} (h : AnyS w B (some ⟨g, 0, none⟩) n c) : News w B ⟨g, 0, none⟩ n := by
  obtain ⟨rs, ss, h⟩ := h
  refine ⟨rs, ss, h.len, h.2.2.1, fun j u hj => ?_, h.2.2.2⟩
  have hlt : j < (flatS rs).length := (List.getElem?_eq_some_iff.1 hj).1
  rw [flatS_len, h.len] at hlt
  rw [addr_add, h.1.cellAt j hlt]
  exact hj
end
theorem anyS_nil (w : World) (B : Nat) : AnyS w B none 0 0 := ⟨[], [], World.ownsRow_nil _ _ _ _, by omega, rfl, fun i hi => absurd hi (by omega)⟩
theorem anyS_empty (w : World) (B : Nat) (hB : B ≤ w.heap.size) : AnyS (w.alloc (.cells #[] 37)) B (some ⟨w.heap.size, 0, none⟩) 0 0 :=
  ⟨[], [], World.ownsRow_lit w #[] 0 hB (by unfold maxLen; omega) rfl, by omega, rfl, fun i hi => absurd hi (by omega)⟩
/-- One new Stmt. -/
theorem news_one {w : World} {B : Nat} {op x : Int} {s1 s2 : Sl} {ts us : List Tm} (h1 : In64 op) (h2 : In64 x) (h3 : OwnT w B s1.1 s1.2.1 s1.2.2 ts) (h4 : OwnT w B s2.1 s2.2.1 s2.2.2 us) :
    News (w.alloc (.cells #[.int .i64 op, .int .i64 x, slV s1, slV s2] 37)) B ⟨w.heap.size, 0, none⟩ 1 := by
  refine ⟨[⟨op, x, s1, s2⟩], [⟨op, x, ts, us⟩], rfl, rfl, fun j u hj => ?_, fun i hi => ?_⟩
  · rw [addr_add]
    exact (Blk.new w 37 [.int .i64 op, .int .i64 x, slV s1, slV s2]).cell hj
  · obtain rfl : i = 0 := by omega
    exact ⟨rfl, rfl, h1, h2, h3.alloc _, h4.alloc _⟩
/-- Two new Stmts of numbers alone. -/
theorem news_two {w : World} {B : Nat} {op x op' x' : Int} (h1 : In64 op) (h2 : In64 x) (h3 : In64 op') (h4 : In64 x') :
    News (w.alloc (.cells #[.int .i64 op, .int .i64 x, .slice none 0 0, .slice none 0 0, .int .i64 op', .int .i64 x', .slice none 0 0, .slice none 0 0] 37)) B ⟨w.heap.size, 0, none⟩ 2 := by
  refine ⟨[⟨op, x, (none, 0, 0), (none, 0, 0)⟩, ⟨op', x', (none, 0, 0), (none, 0, 0)⟩], [⟨op, x, [], []⟩, ⟨op', x', [], []⟩], rfl, rfl, fun j u hj => ?_, fun i hi => ?_⟩
  · rw [addr_add]
    exact (Blk.new w 37 [.int .i64 op, .int .i64 x, .slice none 0 0, .slice none 0 0, .int .i64 op', .int .i64 x', .slice none 0 0, .slice none 0 0]).cell hj
  · match i, hi with
    | 0, _ => exact ⟨rfl, rfl, h1, h2, ownT_nil _ _, ownT_nil _ _⟩
    | 1, _ => exact ⟨rfl, rfl, h3, h4, ownT_nil _ _, ownT_nil _ _⟩
theorem news_plain {w : World} {B : Nat} {op x : Int} (h1 : In64 op) (h2 : In64 x) :
    News (w.alloc (.cells #[.int .i64 op, .int .i64 x, .slice none 0 0, .slice none 0 0] 37)) B ⟨w.heap.size, 0, none⟩ 1 := news_one (s1 := (none, 0, 0)) (s2 := (none, 0, 0)) h1 h2 (ownT_nil _ _) (ownT_nil _ _)
theorem news_exp {w : World} {B : Nat} {op x : Int} {a : Option Addr} {n c : Nat} {us : List Tm} (h1 : In64 op) (h2 : In64 x) (h4 : OwnT w B a n c us) :
    News (w.alloc (.cells #[.int .i64 op, .int .i64 x, .slice none 0 0, .slice a n c] 37)) B ⟨w.heap.size, 0, none⟩ 1 := news_one (s1 := (none, 0, 0)) (s2 := (a, n, c)) h1 h2 (ownT_nil _ _) h4
theorem news_both {w : World} {B : Nat} {op x : Int} {a b : Option Addr} {n c m d : Nat} {ts us : List Tm} (h1 : In64 op) (h2 : In64 x) (h3 : OwnT w B b m d ts) (h4 : OwnT w B a n c us) :
    News (w.alloc (.cells #[.int .i64 op, .int .i64 x, .slice b m d, .slice a n c] 37)) B ⟨w.heap.size, 0, none⟩ 1 := news_one (s1 := (b, m, d)) (s2 := (a, n, c)) h1 h2 h3 h4

/-- 'append(out, some Stmts...)'. -/
theorem wpList_pushS {ops : Array Oper} {rest : List Oper} {o : Oper} {ac : Act} {Q : Exit → Act → World → Prop} (w : World) (hgd : o.guard = none) (s x : Operand)
    (ho : o.op = .call { callee := .builtin .append, args := #[s, x], argTypes := #[29, 29] })
    (B : Nat) (a : Option Addr) (n c : Nat) (hs : ac.eval s = .slice a n c) (hown : AnyS w B a n c)
    (ad : Addr) (m c2 : Nat) (hx : ac.eval x = .slice (some ad) m c2) (hnews : News w B ad m) (hn : n + m ≤ 1048576) (hB : B ≤ w.heap.size)
    (h : ∀ a1 c1 w', AnyS w' B a1 (n + m) c1 → GrowsTo w (.slice a n c) w' (.slice a1 (n + m) c1) → wpList Try.prog ops Q rest (ac.put o.dst (.slice a1 (n + m) c1)) w') : wpList Try.prog ops Q (o :: rest) ac w := by
  obtain ⟨rs, ss, hown⟩ := hown
  obtain ⟨us, vs, hu, hv, hc, hst⟩ := hnews
  refine wpList_pushG w hgd s x 29 37 (.agg #[.int .i64 0, .int .i64 0, .slice none 0 0, .slice none 0 0]) 4 64 ho Try.underlying29 info_stmt rfl (by omega) B a n c (flatS rs) hs hown.1 ad m c2 (flatS us) hx (by rw [flatS_len, hu]) hc (flatS_one us) (by unfold maxLen; omega) (by omega) hB ?_
  intro a1 c1 w' r1 r2
  refine h a1 c1 w' ⟨rs ++ us, ss ++ vs, by rw [flatS_append]; exact r1, hn, by rw [List.length_append, hown.2.2.1, hv], fun i hi => ?_⟩ r2
  have hlr := hown.len
  have hls := hown.2.2.1
  rcases Nat.lt_or_ge i n with hlt | hge
  · rw [srAt_append_left (by omega), stAt_append_left (by omega)]
    exact (hown.2.2.2 i hlt).rowGrew hown.1 r2.1
  · rw [srAt_append_right (by omega), stAt_append_right (by omega), hlr, hls]
    exact (hst (i - n) (by omega)).rowGrew hown.1 r2.1
end Go.Proofs.Ytalcambmmbilkaa
