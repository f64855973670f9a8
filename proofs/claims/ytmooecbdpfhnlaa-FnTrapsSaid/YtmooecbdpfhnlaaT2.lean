/- Joined texts of this proof (Term, Later, TermCopies, Tree), in build order. -/
import Derived.Test.YtmooecbdpfhnlaaT1
/- Words for slices of Terms in memory; the contracts of termOk and of the two functions ExpOk (the program's and the model's). -/
namespace Go.Proofs.Ytmooecbdpfhnlaa
open Go.RowKit

def InTm (t : Tm) : Prop := In64 t.1 ∧ In64 t.2

/-- The slice '.slice a n c' reads as the Terms ts. -/
def Terms (w : World) (a : Option Addr) (n : Nat) (ts : List Tm) : Prop :=
  ts.length = n ∧ n ≤ 1048576 ∧ (∀ t ∈ ts, InTm t) ∧
  (0 < n → ∃ b o, a = some ⟨b, o, none⟩ ∧ b < w.heap.size ∧ ∀ i, i < n → w.cell? ⟨b, o + i * 2, none⟩ = some (.int .i64 (tmAt ts i).1) ∧ w.cell? ⟨b, o + i * 2 + 1, none⟩ = some (.int .i64 (tmAt ts i).2))

theorem Terms.at_ {w : World} {a : Option Addr} {n : Nat} {ts : List Tm} {k : Nat} (h : Terms w a n ts) (hk : k < n) :
    ∃ b o x y, a = some ⟨b, o, none⟩ ∧ b < w.heap.size ∧ Hid (tmAt ts k = (x, y)) ∧ In64 x ∧ In64 y ∧ w.cell? ⟨b, o + k * 2, none⟩ = some (.int .i64 x) ∧ w.cell? ⟨b, o + k * 2 + 1, none⟩ = some (.int .i64 y) := by
  obtain ⟨hl, _, hin, hc⟩ := h
  obtain ⟨b, o, rfl, hb, hcell⟩ := hc (by omega)
  have hm := hin _ (tmAt_mem (k := k) (by omega))
  exact ⟨b, o, _, _, rfl, hb, rfl, hm.1, hm.2, (hcell k hk).1, (hcell k hk).2⟩
theorem Terms.below {w w' : World} {a : Option Addr} {n : Nat} {ts : List Tm} {B : Nat} (h : Terms w a n ts) (hB : w.heap.size ≤ B) (hb : Below B w w') : Terms w' a n ts := by
  obtain ⟨hl, hn, hin, hc⟩ := h
  refine ⟨hl, hn, hin, fun hp => ?_⟩
  obtain ⟨b, o, rfl, hbl, hcell⟩ := hc hp
  exact ⟨b, o, rfl, Nat.lt_of_lt_of_le hbl hb.size, fun i hi => ⟨(hb.cell (Nat.lt_of_lt_of_le hbl hB)).trans (hcell i hi).1, (hb.cell (Nat.lt_of_lt_of_le hbl hB)).trans (hcell i hi).2⟩⟩

theorem tOkB_leaf {op n : Int} (h : op = 0 ∨ op = 1 ∨ op = 2) : tOkB (op, n) = (decide (0 ≤ n) && decide (n ≤ 255)) := by
  rcases h with rfl | rfl | rfl <;> (rw [Bool.eq_iff_iff, tOkB_iff]; simp [takesI])
theorem tOkB_op {op n : Int} (h : ¬ (op = 0 ∨ op = 1 ∨ op = 2)) : tOkB (op, n) = (decide (0 ≤ takesI op) && (n == 0)) := by
  rw [Bool.eq_iff_iff, tOkB_iff]
  simp only [Bool.and_eq_true, decide_eq_true_eq, beq_iff_eq]
  constructor
  · rintro ⟨h1, h2, h3, h4⟩
    refine ⟨h1, ?_⟩
    rcases h4 with h4 | h4
    · have : op < 0 := by omega
      have := (takesI_neg op).2 (.inl this)
      omega
    · exact h4
  · rintro ⟨h1, h2⟩
    exact ⟨h1, by omega, by omega, .inr h2⟩

set_option maxHeartbeats 800000 in
theorem termOk_any (op n : Int) (w : World) :
    Calls Try.prog 148 #[.agg #[.int .i64 op, .int .i64 n]] w fun e w' => e = .returned (.bool (tOkB (op, n))) ∧ Below w.heap.size w w' := by
  by_cases hl : op = 0 ∨ op = 1 ∨ op = 2
  · have HE := Lib.hid (tOkB_leaf (n := n) hl)
    by_cases h0 : 0 ≤ n
    · rcases hl with rfl | rfl | rfl
      all_goals
        go_enter Try.func148, Try.ntmps148
        go_wp2
        go_ret
        exact ⟨ret_bool (by rw [HE.out]; simp [h0]), (Below.refl _ _).alloc (Nat.le_refl _) _⟩
    · rcases hl with rfl | rfl | rfl
      all_goals
        go_enter Try.func148, Try.ntmps148
        go_wp2
        go_ret
        exact ⟨ret_bool (by rw [HE.out, decide_eq_false (by omega)]; rfl), (Below.refl _ _).alloc (Nat.le_refl _) _⟩
  · have HE := Lib.hid (tOkB_op (n := n) hl)
    have n0 : (op == 0) = false := by simp; omega
    have n1 : (op == 1) = false := by simp; omega
    have n2 : (op == 2) = false := by simp; omega
    obtain ⟨q, HQ⟩ : ∃ q, Hid (takesI op = q) := ⟨_, rfl⟩
    clear hl
    by_cases h0 : 0 ≤ q
    · go_enter Try.func148, Try.ntmps148
      go_wp2_with fail
      refine (takes_any _ _).mono ?_
      rintro e w1 ⟨rfl, rfl⟩
      rw [HQ.out]
      go_wp2
      go_ret
      exact ⟨ret_bool (by rw [HE.out, HQ.out]; simp [h0]), (Below.refl _ _).alloc (Nat.le_refl _) _⟩
    · go_enter Try.func148, Try.ntmps148
      go_wp2_with fail
      refine (takes_any _ _).mono ?_
      rintro e w1 ⟨rfl, rfl⟩
      rw [HQ.out]
      go_wp2
      go_ret
      exact ⟨ret_bool (by rw [HE.out, HQ.out, decide_eq_false (by omega)]; rfl), (Below.refl _ _).alloc (Nat.le_refl _) _⟩

set_option maxHeartbeats 800000 in
theorem expOk_any (a : Option Addr) (n c : Nat) (ts : List Tm) (w : World) (h : Terms w a n ts) :
    Calls Try.prog 113 #[.slice a n c] w fun e w' => e = .returned (.bool (expB ts)) ∧ Below w.heap.size w w' := by
  have HL := Lib.hid h.1
  have hbd := h.2.1
  by_cases hn : 3000 < n
  · go_enter Try.func113, Try.ntmps113
    go_wp2
    go_ret
    exact ⟨ret_bool (expB_long (by rw [HL.out]; exact hn)).symm, Below.refl _ _⟩
  · go_enter Try.func113, Try.ntmps113
    go_wp2
    go_loopw [3, 12] (fun l i wr => ∃ (k : Nat) (d : Int), k ≤ n ∧ i = .int .i64 k ∧ l = .int .i64 d ∧ 0 ≤ d ∧ d ≤ k ∧ Hid (runD 0 (ts.take k) = some d) ∧ Below w.heap.size w wr) (fun _ i _ => n - (intOf i).toNat)
    case atStart => exact ⟨0, 0, Nat.zero_le _, rfl, rfl, by omega, by omega, rfl, Below.refl _ _⟩
    case round =>
      obtain ⟨k, d, hk, rfl, rfl, hd0, hd1, hr, hbel⟩ := hrel
      by_cases hlt : k < n
      · obtain ⟨b, o, x, y, rfl, hb, hz, hin1, hin2, hc1, hc2⟩ := (h.below (Nat.le_refl _) hbel).at_ hlt
        obtain ⟨q, HQ⟩ : ∃ q, Hid (takesI x = q) := ⟨_, rfl⟩
        have hq := takesI_range x
        rw [HQ.out] at hq
        obtain ⟨hq0, hq1⟩ := hq
        obtain ⟨okq, HOK⟩ : ∃ okq, Hid (tOkB (x, y) = okq) := ⟨_, rfl⟩
        go_wp2_with fail
        refine (takes_any _ _).mono ?_
        rintro e w1 ⟨rfl, rfl⟩
        rw [HQ.out]
        go_wp2_with fail
        refine (termOk_any _ _ _).mono ?_
        rintro e w1 ⟨rfl, hb1⟩
        have ht1 : Below w.heap.size w w1 := (hbel.alloc hbel.size _).trans (hb1.mono (by have := hbel.size; simp; omega))
        rw [HOK.out]
        clear hb1 hbel hc1 hc2
        cases okq with
        | false =>
          go_wp2
          go_ret
          exact ⟨ret_bool (expB_bad (by rw [HL.out]; exact hlt) hr.out (.inl (by rw [hz.out, HOK.out]))).symm, ht1⟩
        | true =>
          by_cases hqd : d < q
          · go_wp2
            go_ret
            exact ⟨ret_bool (expB_bad (by rw [HL.out]; exact hlt) hr.out (.inr (by rw [hz.out, HQ.out]; exact hqd))).symm, ht1⟩
          · have HR := Lib.hid (runD_step (by rw [HL.out]; exact hlt) hr.out (by rw [hz.out, HOK.out]) (by rw [hz.out, HQ.out]; omega))
            have hq2 : 0 ≤ q := by have := ((tOkB_iff _).1 HOK.out).1; rw [HQ.out] at this; exact this
            go_wp2
            go_roundw
            case rel => exact ⟨k + 1, d + (1 - q), by omega, by go_num, rfl, by omega, by omega, by show _ = _; rw [HR.out, hz.out, HQ.out]; congr 1; omega, ht1⟩
            case measure => simp [intOf]; omega
      · obtain rfl : n = k := by omega
        have hr2 : runD 0 ts = some d := by have := hr.out; rwa [List.take_of_length_le (by rw [HL.out]; exact Nat.le_refl _)] at this
        have HF := Lib.hid (expB_end (by rw [HL.out]; omega) hr2)
        clear hr2
        go_wp2
        go_ret
        exact ⟨ret_bool HF.out.symm, hbel⟩

theorem tOkB_false {x y q : Int} (hq : Hid (takesI x = q)) (h : q < 0 ∨ y < 0 ∨ 255 < y ∨ (2 < x ∧ y ≠ 0)) : tOkB (x, y) = false := by
  rw [← Bool.not_eq_true, tOkB_iff]
  rintro ⟨h1, h2, h3, h4⟩
  simp only [hq.out] at h1 h2 h3 h4
  omega
theorem tOkB_true {x y q : Int} (hq : Hid (takesI x = q)) (h0 : 0 ≤ q) (h1 : 0 ≤ y) (h2 : y ≤ 255) (h3 : x ≤ 2 ∨ y = 0) : tOkB (x, y) = true :=
  (tOkB_iff _).2 ⟨by simp only [hq.out]; exact h0, h1, h2, h3⟩

set_option maxHeartbeats 1600000 in
theorem specExpOk_any (a : Option Addr) (n c : Nat) (ts : List Tm) (w : World) (h : Terms w a n ts) :
    Calls Try.prog 144 #[.slice a n c] w fun e w' => e = .returned (.bool (expB ts)) ∧ Below w.heap.size w w' := by
  have HL := Lib.hid h.1
  have hbd := h.2.1
  by_cases hn : 3000 < n
  · go_enter Try.func144, Try.ntmps144
    go_wp2
    go_ret
    exact ⟨ret_bool (expB_long (by rw [HL.out]; exact hn)).symm, Below.refl _ _⟩
  · go_enter Try.func144, Try.ntmps144
    go_wp2
    go_loopw [3, 4] (fun l i wr => ∃ (k : Nat) (d : Int), k ≤ n ∧ i = .int .i64 k ∧ l = .int .i64 d ∧ 0 ≤ d ∧ d ≤ k ∧ Hid (runD 0 (ts.take k) = some d) ∧ Below w.heap.size w wr) (fun _ i _ => n - (intOf i).toNat)
    case atStart => exact ⟨0, 0, Nat.zero_le _, rfl, rfl, by omega, by omega, rfl, Below.refl _ _⟩
    case round =>
      obtain ⟨k, d, hk, rfl, rfl, hd0, hd1, hr, hbel⟩ := hrel
      by_cases hlt : k < n
      · obtain ⟨b, o, x, y, rfl, hb, hz, hin1, hin2, hc1, hc2⟩ := (h.below (Nat.le_refl _) hbel).at_ hlt
        obtain ⟨q, HQ⟩ : ∃ q, Hid (takesI x = q) := ⟨_, rfl⟩
        have hq := takesI_range x
        rw [HQ.out] at hq
        obtain ⟨hq0, hq1⟩ := hq
        go_wp2_with fail
        refine (specTakes_any _ _).mono ?_
        rintro e w1 ⟨rfl, hb1⟩
        have ht1 : Below w.heap.size w w1 := hbel.trans (hb1.mono hbel.size)
        have hd1' : w1.cell? ⟨b, o + k * 2, none⟩ = some (.int .i64 x) := (hb1.cell hb).trans hc1
        have hd2' : w1.cell? ⟨b, o + k * 2 + 1, none⟩ = some (.int .i64 y) := (hb1.cell hb).trans hc2
        rw [HQ.out]
        clear hb1 hbel hc1 hc2
        by_cases hqn : q < 0
        · go_wp2_with fail
          go_ret
          exact ⟨ret_bool (expB_bad (by rw [HL.out]; exact hlt) hr.out (.inl (by rw [hz.out]; exact tOkB_false HQ (.inl hqn)))).symm, ht1⟩
        by_cases hqd : d < q
        · go_wp2_with fail
          go_ret
          exact ⟨ret_bool (expB_bad (by rw [HL.out]; exact hlt) hr.out (.inr (by rw [hz.out]; show d < takesI x; rw [HQ.out]; exact hqd))).symm, ht1⟩
        obtain ⟨inq, HI⟩ : ∃ inq, Hid ((decide (0 ≤ y) && decide (y ≤ 255)) = inq) := ⟨_, rfl⟩
        cases inq with
        | false =>
          have hyy : y < 0 ∨ 255 < y := by have := HI.out; simp at this; omega
          go_wp2_with fail
          refine (in_any _ _ _ _).mono ?_
          rintro e w2 ⟨rfl, rfl⟩
          rw [HI.out]
          go_wp2_with fail
          go_ret
          exact ⟨ret_bool (expB_bad (by rw [HL.out]; exact hlt) hr.out (.inl (by rw [hz.out]; exact tOkB_false HQ (by omega)))).symm, ht1⟩
        | true =>
          have hy0 : 0 ≤ y := by have := HI.out; simp at this; omega
          have hy1 : y ≤ 255 := by have := HI.out; simp at this; omega
          by_cases hx2 : 2 < x
          · by_cases hyz : y = 0
            · subst hyz
              have HR := Lib.hid (runD_step (by rw [HL.out]; exact hlt) hr.out (by rw [hz.out]; exact tOkB_true HQ (by omega) hy0 hy1 (.inr rfl)) (by rw [hz.out]; show takesI x ≤ d; rw [HQ.out]; omega))
              go_wp2_with fail
              refine (in_any _ _ _ _).mono ?_
              rintro e w2 ⟨rfl, rfl⟩
              rw [HI.out]
              go_wp2_with fail
              go_roundw
              case rel => exact ⟨k + 1, d - q + 1, by omega, by go_num, rfl, by omega, by omega, by show _ = _; rw [HR.out, hz.out]; show some (d + 1 - takesI x) = _; rw [HQ.out]; congr 1; omega, ht1⟩
              case measure => simp [intOf]; omega
            · have hne : (y != 0) = true := by simpa using hyz
              go_wp2_with fail
              refine (in_any _ _ _ _).mono ?_
              rintro e w2 ⟨rfl, rfl⟩
              rw [HI.out]
              go_wp2_with fail
              go_ret
              exact ⟨ret_bool (expB_bad (by rw [HL.out]; exact hlt) hr.out (.inl (by rw [hz.out]; exact tOkB_false HQ (.inr (.inr (.inr ⟨hx2, hyz⟩)))))).symm, ht1⟩
          · have HR := Lib.hid (runD_step (by rw [HL.out]; exact hlt) hr.out (by rw [hz.out]; exact tOkB_true HQ (by omega) hy0 hy1 (.inl (by omega))) (by rw [hz.out]; show takesI x ≤ d; rw [HQ.out]; omega))
            go_wp2_with fail
            refine (in_any _ _ _ _).mono ?_
            rintro e w2 ⟨rfl, rfl⟩
            rw [HI.out]
            go_wp2_with fail
            go_roundw
            case rel => exact ⟨k + 1, d - q + 1, by omega, by go_num, rfl, by omega, by omega, by show _ = _; rw [HR.out, hz.out]; show some (d + 1 - takesI x) = _; rw [HQ.out]; congr 1; omega, ht1⟩
            case measure => simp [intOf]; omega
      · obtain rfl : n = k := by omega
        have hr2 : runD 0 ts = some d := by have := hr.out; rwa [List.take_of_length_le (by rw [HL.out]; exact Nat.le_refl _)] at this
        have HF := Lib.hid (expB_end (by rw [HL.out]; omega) hr2)
        clear hr2
        go_wp2
        go_ret
        exact ⟨ret_bool HF.out.symm, hbel⟩
end Go.Proofs.Ytmooecbdpfhnlaa
/- A region that draws its order, whose own operations only read and whose callees leave what was there as it was: walked once, in the text's order, in the class of later worlds. -/
namespace Go.Proofs.Ytmooecbdpfhnlaa
open Go.RowKit

/-- A world in which all that lay in w lies as it did. -/
structure Lat (w : World) where
  wd : World
  ok : Below w.heap.size w wd
instance (w : World) : Inhabited (Lat w) := ⟨⟨w, Below.refl _ _⟩⟩

theorem wp_region_lat {id : Nat} {Q : Exit → Act → World → Prop} {a : Act} {w : World} {l : List Oper} (hm : Try.prog.follows .mixedOrders = true) (hB : Region.lexB .any l.toArray = true)
    (h : wpQuiet Try.prog l.toArray (fun w' => ∃ p : Lat w, w' = p.wd) (fun a' => ∀ w', (∃ p : Lat w, w' = p.wd) → Q .normal a' w') l a) : (Code.region id l.toArray true).wp Try.prog Q a w :=
  wp_region_quiet (C := fun w' => ∃ p : Lat w, w' = p.wd) hm hB ⟨⟨w.drewN 1, ⟨rfl, rfl, rfl, Nat.le_refl _, fun _ _ => rfl⟩⟩, rfl⟩ (by simpa using h)
theorem lat_cell {w : World} {b o : Nat} {v : Value} (hb : b < w.heap.size) (h : w.cell? ⟨b, o, none⟩ = some v) (p : Lat w) : p.wd.cell? ⟨b, o, none⟩ = some v := (p.ok.cell hb).trans h
theorem lat_calls {f : FuncId} {args : Array Value} {w : World} {p : Lat w} {v : Value} (h : Calls Try.prog f args p.wd fun e w' => e = .returned v ∧ Below p.wd.heap.size p.wd w') :
    Calls Try.prog f args p.wd fun e w'' => e = .returned v ∧ ∃ q : Lat w, w'' = q.wd :=
  h.mono fun _ w'' ⟨he, hb⟩ => ⟨he, ⟨w'', p.ok.trans (hb.mono p.ok.size)⟩, rfl⟩
end Go.Proofs.Ytmooecbdpfhnlaa
/- The contracts of the laws' own helpers on slices of Terms: a copy (toTermS), a comparison (eqTermS), marks written (markTermS), marks asked for (heldTermS). -/
namespace Go.Proofs.Ytmooecbdpfhnlaa
open Go.RowKit

/-- The cells of some Terms. -/
def flatV (ts : List Tm) : List Value := ts.flatMap (fun t => [.int .i64 t.1, .int .i64 t.2])
theorem flatV_len (ts : List Tm) : (flatV ts).length = ts.length * 2 := by
  induction ts with
  | nil => rfl
  | cons t r ih => simp only [flatV, List.flatMap_cons, List.length_append] at ih ⊢; simp only [List.length_cons, List.length_nil]; omega
theorem flatV_append (a b : List Tm) : flatV (a ++ b) = flatV a ++ flatV b := by simp [flatV]
theorem flatV_at : ∀ (ts : List Tm) (k : Nat), k < ts.length → (flatV ts)[k * 2]? = some (.int .i64 (tmAt ts k).1) ∧ (flatV ts)[k * 2 + 1]? = some (.int .i64 (tmAt ts k).2)
  | [], k, h => absurd h (by simp)
  | t :: r, 0, _ => ⟨rfl, rfl⟩
  | t :: r, k + 1, h => by
    have ih := flatV_at r k (by simpa using h)
    have e1 : (k + 1) * 2 = k * 2 + 2 := by omega
    rw [e1]
    exact ih

/-- A slice of Terms that the call made itself, from block B on. -/
def OwnT (w : World) (B : Nat) (a : Option Addr) (n c : Nat) (ts : List Tm) : Prop :=
  w.ownsRow B 94 2 (.slice a n c) n (flatV ts) ∧ n ≤ 1048576 ∧ ∀ t ∈ ts, InTm t

section
variable {w w' : World} {B : Nat} {a : Option Addr} {n c : Nat} {ts : List Tm}
theorem OwnT.len (h : OwnT w B a n c ts) : ts.length = n := by have := h.1.1; rw [flatV_len] at this; omega
theorem OwnT.terms (h : OwnT w B a n c ts) : Terms w a n ts := by
  have hlen := h.len
  obtain ⟨ho, hn, hin⟩ := h
  refine ⟨hlen, hn, hin, fun hp => ?_⟩
  rcases ho.2 with ⟨_, h0⟩ | ⟨g, cap, cur, e, _, hh, _⟩
  · exact absurd hp (by omega)
  · have ea : a = some ⟨g, 0, none⟩ := by injection e
    subst ea
    refine ⟨g, 0, rfl, (ho.lt g rfl).2, fun i hi => ?_⟩
    rw [Nat.zero_add, ho.cellAt (i * 2) (by omega), ho.cellAt (i * 2 + 1) (by omega)]
    exact flatV_at ts i (by omega)
theorem OwnT.below (h : OwnT w B a n c ts) (hb : Below w.heap.size w w') : OwnT w' B a n c ts :=
  ⟨h.1.kept (row := none) ⟨hb.os, hb.tape, hb.output, hb.size, fun k hk _ => hb.block k hk⟩ (by cases a <;> simp [Value.ownBlock]), h.2⟩
theorem OwnT.base {B' : Nat} (h : OwnT w B a n c ts) (hB : B' ≤ B) : OwnT w B' a n c ts := by
  refine ⟨⟨h.1.1, ?_⟩, h.2⟩
  rcases h.1.2 with hn | ⟨g, cap, cur, e, hb, r⟩
  · exact .inl hn
  · exact .inr ⟨g, cap, cur, e, by omega, r⟩
theorem OwnT.alloc (h : OwnT w B a n c ts) (o : Obj) : OwnT (w.alloc o) B a n c ts := ⟨h.1.alloc o, h.2⟩
theorem OwnT.block (h : OwnT w B a n c ts) : ∀ g, (Value.slice a n c).ownBlock = some g → B ≤ g ∧ g < w.heap.size := h.1.lt
theorem OwnT.apart {row : Option Nat} (h : OwnT w B a n c ts) (hg : w.grownBy w' row) (hr : ∀ g, (Value.slice a n c).ownBlock = some g → row ≠ some g) : OwnT w' B a n c ts := by
  refine ⟨h.1.kept hg ?_, h.2⟩
  cases hv : (Value.slice a n c).ownBlock with
  | none => exact .inl rfl
  | some g => exact .inr fun e => hr g hv e.symm
theorem OwnT.cap (h : OwnT w B a n c ts) : n ≤ c := by
  rcases h.1.2 with ⟨e, h0⟩ | ⟨g, cap, cur, e, hb, hg, hnc, _⟩
  · omega
  · injection e with e1 e2 e3
    omega
end
/-- What a function that makes a slice of the Terms ts leaves. -/
def MadeT (w : World) (ts : List Tm) (e : Ending) (w' : World) : Prop :=
  ∃ a n c, e = .returned (.slice a n c) ∧ OwnT w' w.heap.size a n c ts ∧ Below w.heap.size w w'

theorem info_term : (Try.prog.info? 94).map (fun i => (i.zero, i.size, i.bytes)) = some (some (.agg #[.int .i64 0, .int .i64 0]), 2, 16) := by kernel_rfl
theorem noughts (n : Nat) : (madeCells #[Value.int .i64 0, Value.int .i64 0] (n * 2)).toList = flatV (List.replicate n (0, 0)) := by
  have e : (madeCells #[Value.int .i64 0, Value.int .i64 0] (n * 2)).toList = (List.range (n * 2)).map (fun i => (#[Value.int .i64 0, Value.int .i64 0] : Array Value)[i % 2]!) := by simp [madeCells]
  rw [e]
  clear e
  induction n with
  | zero => rfl
  | succ n ih =>
    rw [show (n + 1) * 2 = n * 2 + 1 + 1 by omega, List.range_succ, List.range_succ, List.map_append, List.map_append, ih, List.replicate_succ', flatV_append, List.append_assoc]
    congr 1
    simp only [List.map_cons, List.map_nil]
    rw [show n * 2 % 2 = 0 by omega, show (n * 2 + 1) % 2 = 1 by omega]
    rfl
/-- The first k of ts, noughts behind. -/
def CopyT (ts : List Tm) (n k : Nat) : List Tm := ts.take k ++ List.replicate (n - k) (0, 0)
/-- The first k are alike. -/
def EqTm (xs ys : List Tm) (k : Nat) : Prop := ∀ i, i < k → tmAt xs i = tmAt ys i
theorem EqTm.zero (xs ys : List Tm) : EqTm xs ys 0 := fun i hi => absurd hi (by omega)
theorem EqTm.succ {xs ys : List Tm} {k : Nat} {t u : Tm} (h : EqTm xs ys k) (hx : Hid (tmAt xs k = t)) (hy : Hid (tmAt ys k = u)) (e : t = u) : EqTm xs ys (k + 1) := by
  intro i hi
  rcases Nat.lt_or_ge i k with hlt | hge
  · exact h i hlt
  · have : i = k := by omega
    subst this; rw [hx.out, hy.out]; exact e
/-- The Terms marked: k, k + 1; k + 2, k + 3; .. -/
def marksT (k : Int) (n : Nat) : List Tm := (List.range n).map (fun i : Nat => (k + 2 * (i : Int), k + 2 * (i : Int) + 1))
/-- The first j Terms marked. -/
def MarkT (ts : List Tm) (k : Int) (j : Nat) : List Tm := marksT k j ++ ts.drop j
end Go.Proofs.Ytmooecbdpfhnlaa
/- Trees in memory (the program's interface values), and the contracts of their methods. -/
namespace Go.Proofs.Ytmooecbdpfhnlaa
open Go.RowKit

instance : Inhabited Tr := ⟨.node 0 0 []⟩

/-- The slice '.slice a n c' of trees reads as the values vs; its block is one of F. -/
def RowV (w : World) (F : Nat → Prop) (a : Option Addr) (n : Nat) (vs : List Value) : Prop :=
  vs.length = n ∧ (0 < n → ∃ b o cur fz, a = some ⟨b, o, none⟩ ∧ F b ∧ w.heap[b]? = some (.cells cur 143 fz) ∧ ∀ i, i < n → cur[o + i]? = some (vs.getD i .nilIface))

/-- The value is this tree; the blocks of its slices are some of F. -/
inductive IsTree (w : World) (F : Nat → Prop) : Value → Tr → Prop
  | num (n : Int) : IsTree w F (.iface 196 (.agg #[.int .i64 n])) (.node 0 n [])
  | var (n : Int) : IsTree w F (.iface 198 (.agg #[.int .i64 n])) (.node 1 n [])
  | cell (n : Int) (v : Value) (T : Tr) : IsTree w F v T → IsTree w F (.iface 178 (.agg #[.int .i64 n, v])) (.node 2 n [T])
  | op (k : Int) (a : Option Addr) (m c : Nat) (vs : List Value) (Ts : List Tr) : 3 ≤ k → k ≤ 17 → m ≤ 3 → Ts.length = m → RowV w F a m vs → (∀ i, i < m → IsTree w F (vs.getD i .nilIface) (Ts.getD i default)) →
      IsTree w F (.iface 182 (.agg #[.int .i64 k, .slice a m c])) (.node k 0 Ts)

/-- In w' the slices of trees of w in F lie as they did, and are in F'. -/
def Keeps (w : World) (F : Nat → Prop) (w' : World) (F' : Nat → Prop) : Prop := ∀ b cur fz, F b → w.heap[b]? = some (.cells cur 143 fz) → w'.heap[b]? = w.heap[b]? ∧ F' b
theorem RowV.keep {w w' : World} {F F' : Nat → Prop} {a : Option Addr} {n : Nat} {vs : List Value} (h : RowV w F a n vs) (hk : Keeps w F w' F') : RowV w' F' a n vs := by
  refine ⟨h.1, fun hp => ?_⟩
  obtain ⟨b, o, cur, fz, ha, hF, hh, hc⟩ := h.2 hp
  have := hk b cur fz hF hh
  exact ⟨b, o, cur, fz, ha, this.2, this.1.trans hh, hc⟩
theorem IsTree.keep {w w' : World} {F F' : Nat → Prop} {v : Value} {T : Tr} (h : IsTree w F v T) (hk : Keeps w F w' F') : IsTree w' F' v T := by
  induction h with
  | num n => exact .num n
  | var n => exact .var n
  | cell n v T _ ih => exact .cell n v T ih
  | op k a m c vs Ts h1 h2 h3 h4 h5 _ ih => exact .op k a m c vs Ts h1 h2 h3 h4 (h5.keep hk) ih
theorem RowV.at_ {w : World} {F : Nat → Prop} {a : Option Addr} {n : Nat} {vs : List Value} (h : RowV w F a n vs) {k : Nat} (hk : k < n) :
    ∃ b o, a = some ⟨b, o, none⟩ ∧ b < w.heap.size ∧ w.cell? ⟨b, o + k, none⟩ = some (vs.getD k .nilIface) := by
  obtain ⟨b, o, cur, fz, ha, hF, hh, hc⟩ := h.2 (by omega)
  refine ⟨b, o, ha, (Array.getElem?_eq_some_iff.1 hh).1, ?_⟩
  simp [World.cell?, hh, hc k hk]


/-! ### Which method it is -/
theorem m_num_under (x : Value) (w : World) : Sem.run Try.prog (method 321 196 (.agg #[x]) "loop.example/g00697/impl.under") w = .ok (188, .agg #[x]) w := by kernel_rfl
theorem m_var_under (x : Value) (w : World) : Sem.run Try.prog (method 321 198 (.agg #[x]) "loop.example/g00697/impl.under") w = .ok (190, .agg #[x]) w := by kernel_rfl
theorem m_cell_under (x y : Value) (w : World) : Sem.run Try.prog (method 321 178 (.agg #[x, y]) "loop.example/g00697/impl.under") w = .ok (184, .agg #[x, y]) w := by kernel_rfl
theorem m_op_under (x y : Value) (w : World) : Sem.run Try.prog (method 321 182 (.agg #[x, y]) "loop.example/g00697/impl.under") w = .ok (186, .agg #[x, y]) w := by kernel_rfl
/-! ### The methods -/
theorem num_under (n : Int) (w : World) : Calls Try.prog 188 #[.agg #[.int .i64 n]] w fun e w' => e = .returned (.slice none 0 0) ∧ Below w.heap.size w w' := by
  go_enter Try.func188, Try.ntmps188
  go_wp2
  go_ret
  exact ⟨rfl, (Below.refl _ _).alloc (Nat.le_refl _) _⟩
theorem var_under (n : Int) (w : World) : Calls Try.prog 190 #[.agg #[.int .i64 n]] w fun e w' => e = .returned (.slice none 0 0) ∧ Below w.heap.size w w' := by
  go_enter Try.func190, Try.ntmps190
  go_wp2
  go_ret
  exact ⟨rfl, (Below.refl _ _).alloc (Nat.le_refl _) _⟩
theorem op_under (k : Int) (a : Option Addr) (m c : Nat) (w : World) : Calls Try.prog 186 #[.agg #[.int .i64 k, .slice a m c]] w fun e w' => e = .returned (.slice a m c) ∧ Below w.heap.size w w' := by
  go_enter Try.func186, Try.ntmps186
  go_wp2
  go_ret
  exact ⟨rfl, (Below.refl _ _).alloc (Nat.le_refl _) _⟩
theorem cell_under (n : Int) (u : TypeId) (x : Value) (w : World) : Calls Try.prog 184 #[.agg #[.int .i64 n, .iface u x]] w fun e w' => ∃ g, e = .returned (.slice (some ⟨g, 0, none⟩) 1 1) ∧ w.heap.size ≤ g ∧ w'.heap[g]? = some (.cells #[.iface u x] 143 (0, 0)) ∧ Below w.heap.size w w' := by
  go_enter Try.func184, Try.ntmps184
  go_wp2
  go_ret
  refine ⟨w.heap.size + 1, rfl, by omega, ?_, ((Below.refl _ _).alloc (Nat.le_refl _) _).alloc (by simp) _⟩
  have := heap_alloc_new (w.alloc (.cells #[.int .i64 n, .iface u x] 178)) (.cells #[.iface u x] 143)
  simpa using this
end Go.Proofs.Ytmooecbdpfhnlaa
