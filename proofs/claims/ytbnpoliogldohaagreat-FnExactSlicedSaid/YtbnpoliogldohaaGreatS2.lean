/- The contracts of the laws' own helpers on slices of Terms: a copy (toTermS), a comparison (eqTermS), marks written (markTermS), marks asked for (heldTermS). -/
import Derived.Test.YtbnpoliogldohaaGreatS1
namespace Go.Proofs.YtbnpoliogldohaaGreat
open Go.RowKit

/-- The cells of some Terms. -/
def flatV (ts : List Tm) : List Value := ts.flatMap (fun t => [.int .i64 t.1, .int .i64 t.2])
theorem flatV_len (ts : List Tm) : (flatV ts).length = ts.length * 2 := by
  induction ts with
  | nil => rfl
  | cons t r ih => simp only [flatV, List.flatMap_cons, List.length_append] at ih ⊢; simp only [List.length_cons, List.length_nil]; omega
theorem flatV_append (a b : List Tm) : flatV (a ++ b) = flatV a ++ flatV b := by simp [flatV]
theorem flatV_at : ∀ (ts : List Tm) (k : Nat), k < ts.length → (flatV ts)[k * 2]? = some (.int .i64 (tmAt ts k).1) ∧ (flatV ts)[k * 2 + 1]? = some (.int .i64 (tmAt ts k).2)
  | [], k, h => absurd h (by simp)
  | t :: r, 0, _ => ⟨rfl, rfl⟩
  | t :: r, k + 1, h => by
    have ih := flatV_at r k (by simpa using h)
    have e1 : (k + 1) * 2 = k * 2 + 2 := by omega
    rw [e1]
    exact ih

/-- A slice of Terms that the call made itself, from block B on. -/
def OwnT (w : World) (B : Nat) (a : Option Addr) (n c : Nat) (ts : List Tm) : Prop :=
  w.ownsRow B 138 2 (.slice a n c) n (flatV ts) ∧ n ≤ 1048576 ∧ ∀ t ∈ ts, InTm t

section
variable {w w' : World} {B : Nat} {a : Option Addr} {n c : Nat} {ts : List Tm}
theorem OwnT.len (h : OwnT w B a n c ts) : ts.length = n := by have := h.1.1; rw [flatV_len] at this; omega
theorem OwnT.terms (h : OwnT w B a n c ts) : Terms w a n ts := by
  have hlen := h.len
  obtain ⟨ho, hn, hin⟩ := h
  refine ⟨hlen, hn, hin, fun hp => ?_⟩
  rcases ho.2 with ⟨_, h0⟩ | ⟨g, cap, cur, e, _, hh, _⟩
  · exact absurd hp (by omega)
  · have ea : a = some ⟨g, 0, none⟩ := by injection e
    subst ea
    refine ⟨g, 0, rfl, (ho.lt g rfl).2, fun i hi => ?_⟩
    rw [Nat.zero_add, ho.cellAt (i * 2) (by omega), ho.cellAt (i * 2 + 1) (by omega)]
    exact flatV_at ts i (by omega)
theorem OwnT.below (h : OwnT w B a n c ts) (hb : Below w.heap.size w w') : OwnT w' B a n c ts :=
  ⟨h.1.kept (row := none) ⟨hb.os, hb.tape, hb.output, hb.size, fun k hk _ => hb.block k hk⟩ (by cases a <;> simp [Value.ownBlock]), h.2⟩
theorem OwnT.base {B' : Nat} (h : OwnT w B a n c ts) (hB : B' ≤ B) : OwnT w B' a n c ts := by
  refine ⟨⟨h.1.1, ?_⟩, h.2⟩
  rcases h.1.2 with hn | ⟨g, cap, cur, e, hb, r⟩
  · exact .inl hn
  · exact .inr ⟨g, cap, cur, e, by omega, r⟩
theorem OwnT.alloc (h : OwnT w B a n c ts) (o : Obj) : OwnT (w.alloc o) B a n c ts := ⟨h.1.alloc o, h.2⟩
theorem OwnT.block (h : OwnT w B a n c ts) : ∀ g, (Value.slice a n c).ownBlock = some g → B ≤ g ∧ g < w.heap.size := h.1.lt
theorem OwnT.apart {row : Option Nat} (h : OwnT w B a n c ts) (hg : w.grownBy w' row) (hr : ∀ g, (Value.slice a n c).ownBlock = some g → row ≠ some g) : OwnT w' B a n c ts := by
  refine ⟨h.1.kept hg ?_, h.2⟩
  cases hv : (Value.slice a n c).ownBlock with
  | none => exact .inl rfl
  | some g => exact .inr fun e => hr g hv e.symm
theorem OwnT.cap (h : OwnT w B a n c ts) : n ≤ c := by
  rcases h.1.2 with ⟨e, h0⟩ | ⟨g, cap, cur, e, hb, hg, hnc, _⟩
  · omega
  · injection e with e1 e2 e3
    omega
end
/-- What a function that makes a slice of the Terms ts leaves. -/
def MadeT (w : World) (ts : List Tm) (e : Ending) (w' : World) : Prop :=
  ∃ a n c, e = .returned (.slice a n c) ∧ OwnT w' w.heap.size a n c ts ∧ Below w.heap.size w w'

theorem info_term : (Tryz.prog.info? 138).map (fun i => (i.zero, i.size, i.bytes)) = some (some (.agg #[.int .i64 0, .int .i64 0]), 2, 16) := by kernel_rfl
theorem flatV_set : ∀ (ts : List Tm) (k : Nat) (t : Tm), k < ts.length → flatV (ts.set k t) = ((flatV ts).set (k * 2) (.int .i64 t.1)).set (k * 2 + 1) (.int .i64 t.2)
  | [], k, _, h => absurd h (by simp)
  | u :: r, 0, t, _ => rfl
  | u :: r, k + 1, t, h => by
    have ih := flatV_set r k t (by simpa using h)
    have e1 : (k + 1) * 2 = k * 2 + 2 := by omega
    rw [e1]
    show Value.int .i64 u.1 :: Value.int .i64 u.2 :: flatV (r.set k t) = _
    rw [ih]
    rfl
theorem own_put2 {w : World} {B g n cap : Nat} {ts : List Tm} (h : w.ownsRow B 138 2 (.slice (some ⟨g, 0, none⟩) n cap) n (flatV ts)) (k : Nat) (hk : k < ts.length) (x y : Int) :
    ((w.setCell ⟨g, k * 2, none⟩ (.int .i64 x)).setCell ⟨g, k * 2 + 1, none⟩ (.int .i64 y)).ownsRow B 138 2 (.slice (some ⟨g, 0, none⟩) n cap) n (flatV (ts.set k (x, y))) := by
  rw [flatV_set ts k (x, y) hk]; exact ((h.stored (k * 2) _).1.stored (k * 2 + 1) _).1
theorem own_cell2 {w : World} {B g n cap : Nat} {ts : List Tm} (h : w.ownsRow B 138 2 (.slice (some ⟨g, 0, none⟩) n cap) n (flatV ts)) {k : Nat} (hk : k < n) :
    w.cell? ⟨g, k * 2, none⟩ = some (.int .i64 (tmAt ts k).1) ∧ w.cell? ⟨g, k * 2 + 1, none⟩ = some (.int .i64 (tmAt ts k).2) := by
  have hl : ts.length = n := by have := h.1; rw [flatV_len] at this; omega
  rw [h.cellAt (k * 2) (by omega), h.cellAt (k * 2 + 1) (by omega)]
  exact flatV_at ts k (by omega)

theorem noughts (n : Nat) : (madeCells #[Value.int .i64 0, Value.int .i64 0] (n * 2)).toList = flatV (List.replicate n (0, 0)) := by
  have e : (madeCells #[Value.int .i64 0, Value.int .i64 0] (n * 2)).toList = (List.range (n * 2)).map (fun i => (#[Value.int .i64 0, Value.int .i64 0] : Array Value)[i % 2]!) := by simp [madeCells]
  rw [e]
  clear e
  induction n with
  | zero => rfl
  | succ n ih =>
    rw [show (n + 1) * 2 = n * 2 + 1 + 1 by omega, List.range_succ, List.range_succ, List.map_append, List.map_append, ih, List.replicate_succ', flatV_append, List.append_assoc]
    congr 1
    simp only [List.map_cons, List.map_nil]
    rw [show n * 2 % 2 = 0 by omega, show (n * 2 + 1) % 2 = 1 by omega]
    rfl
/-- The first k of ts, noughts behind. -/
def CopyT (ts : List Tm) (n k : Nat) : List Tm := ts.take k ++ List.replicate (n - k) (0, 0)
theorem copyT_zero (ts : List Tm) (n : Nat) : CopyT ts n 0 = List.replicate n (0, 0) := by simp [CopyT]
theorem copyT_all {ts : List Tm} {n : Nat} (h : ts.length = n) : CopyT ts n n = ts := by subst h; simp [CopyT]
theorem copyT_len {ts : List Tm} {n k : Nat} (h : ts.length = n) (hk : k ≤ n) : (CopyT ts n k).length = n := by simp [CopyT]; omega
theorem copyT_succ {ts : List Tm} {n k : Nat} {t : Tm} (h : ts.length = n) (hk : k < n) (ht : Hid (tmAt ts k = t)) : (CopyT ts n k).set k t = CopyT ts n (k + 1) := by
  unfold CopyT
  rw [tm_snoc ts k (by omega), ht.out, List.set_append_right _ _ (by simp; omega), show k - (ts.take k).length = 0 by simp; omega, show n - k = (n - (k + 1)) + 1 by omega, List.replicate_succ, List.set_cons_zero]
  simp
set_option maxHeartbeats 400000 in
theorem toTerm_any (x y : Int) (w : World) :
    Calls Tryz.prog 219 #[.agg #[.int .i64 x, .int .i64 y]] w fun e w' => e = .returned (.agg #[.int .i64 x, .int .i64 y]) ∧ Below w.heap.size w w' := by
  go_enter Tryz.func219, Tryz.ntmps219
  go_wp2
  exact bodyPost_ret (v := .agg #[.int .i64 x, .int .i64 y]) (by simp [results, Tryz.results219, go_sem]) rfl ⟨rfl, (((Below.refl _ _).alloc (Nat.le_refl _) _).alloc (by simp) _).alloc (by simp; omega) _⟩

set_option maxHeartbeats 800000 in
theorem toTermS_any (a : Option Addr) (n c : Nat) (ts : List Tm) (w : World) (h : Terms w a n ts) :
    Calls Tryz.prog 185 #[.slice a n c] w (MadeT w ts) := by
  have HL := Lib.hid h.1
  have hbd := h.2.1
  obtain ⟨i0, hi, hz0, hz1, hz2⟩ := info_parts info_term
  have HI := Lib.hid hi
  have HZ0 := Lib.hid hz0
  have HZ1 := Lib.hid hz1
  have HZ2 := Lib.hid hz2
  clear hi hz0 hz1 hz2
  go_enter Tryz.func185, Tryz.ntmps185
  go_wp2_with (at_make; refine wpList_make_full _ rfl _ _ 71 rfl w.heap.size 138 i0 (.agg #[.int .i64 0, .int .i64 0]) 2 Tryz.underlying71 HI.out HZ0.out HZ1.out _ _ _ _ n rfl rfl rfl rfl ?b2 ?b3 ?b4 ?_)
  case b2 => rw [HZ2.out]; omega
  case b3 => unfold maxLen; omega
  case b4 => exact Nat.le_refl _
  intro w1 hown hgrow
  have hb1 : Below w.heap.size w w1 := (Below.refl _ _).grown hgrow (Nat.le_refl _) (fun k hk => by cases hk)
  have hsz : w.heap.size < w1.heap.size := (hown.lt w.heap.size rfl).2
  have HO : w1.ownsRow w.heap.size 138 2 (.slice (some ⟨w.heap.size, 0, none⟩) n n) n (flatV (CopyT ts n 0)) := by
    rw [copyT_zero, ← noughts]; exact hown
  clear hown hgrow
  go_wp2
  go_loopw [4] (fun i wr => ∃ k : Nat, k ≤ n ∧ i = .int .i64 k ∧ wr.ownsRow w.heap.size 138 2 (.slice (some ⟨w.heap.size, 0, none⟩) n n) n (flatV (CopyT ts n k)) ∧ Below w.heap.size w wr) (fun i _ => n - (intOf i).toNat)
  case atStart => exact ⟨0, Nat.zero_le _, rfl, HO, hb1⟩
  case round =>
    clear HO hb1 hsz
    obtain ⟨k, hk, rfl, hown, hbel⟩ := hrel
    by_cases hlt : k < n
    · obtain ⟨b, o, x, y, rfl, hb, hz, hin1, hin2, hc1, hc2⟩ := (h.below (Nat.le_refl _) hbel).at_ hlt
      go_wp2_with fail
      refine (toTerm_any _ _ _).mono ?_
      rintro e w2 ⟨rfl, hb2⟩
      have hown2 : w2.ownsRow w.heap.size 138 2 (.slice (some ⟨w.heap.size, 0, none⟩) n n) n (flatV (CopyT ts n k)) := hown.kept (row := none) ⟨hb2.os, hb2.tape, hb2.output, hb2.size, fun k hk _ => hb2.block k hk⟩ (.inr (by simp [Value.ownBlock]))
      have hbel2 : Below w.heap.size w w2 := hbel.trans (hb2.mono hbel.size)
      obtain ⟨hd1, hd2⟩ := own_cell2 hown2 hlt
      generalize (tmAt (CopyT ts n k) k).1 = q1 at hd1
      generalize (tmAt (CopyT ts n k) k).2 = q2 at hd2
      have hf1 := hown2.frozenAt (k * 2)
      have hf2 := hown2.frozenAt (k * 2 + 1)
      have HO2 := own_put2 hown2 k (by rw [copyT_len HL.out hk]; exact hlt) x y
      rw [copyT_succ HL.out hlt hz] at HO2
      have hbel3 : Below w.heap.size w ((w2.setCell ⟨w.heap.size, k * 2, none⟩ (.int .i64 x)).setCell ⟨w.heap.size, k * 2 + 1, none⟩ (.int .i64 y)) := (hbel2.setCell (Nat.le_refl _) _).setCell (Nat.le_refl _) _
      clear hc1 hc2 hown hbel hown2 hbel2 hb2
      go_wp2
      go_roundw
      case rel => exact ⟨k + 1, by omega, by go_num, HO2, hbel3⟩
      case measure => simp [intOf]; omega
    · obtain rfl : n = k := by omega
      go_wp2
      go_ret
      rw [copyT_all HL.out] at hown
      exact ⟨_, _, _, rfl, ⟨hown, hbd, h.2.2.1⟩, hbel⟩
set_option maxHeartbeats 400000 in
theorem eqTerm_any (x y x' y' : Int) (w : World) :
    Calls Tryz.prog 220 #[.agg #[.int .i64 x, .int .i64 y], .agg #[.int .i64 x', .int .i64 y']] w fun e w' => e = .returned (.bool (decide ((x, y) = (x', y')))) ∧ Below w.heap.size w w' := by
  by_cases h1 : x = x'
  · subst h1
    have hne0 : (x != x) = false := by simp
    by_cases h2 : y = y'
    · subst h2
      have hne1 : (y != y) = false := by simp
      go_enter Tryz.func220, Tryz.ntmps220
      go_wp2
      go_ret
      exact ⟨ret_bool (by simp), ((Below.refl _ _).alloc (Nat.le_refl _) _).alloc (by simp) _⟩
    · have hne1 : (y != y') = true := by simpa using h2
      go_enter Tryz.func220, Tryz.ntmps220
      go_wp2
      go_ret
      exact ⟨ret_bool (by simp [h2]), ((Below.refl _ _).alloc (Nat.le_refl _) _).alloc (by simp) _⟩
  · have hne1 : (x != x') = true := by simpa using h1
    go_enter Tryz.func220, Tryz.ntmps220
    go_wp2
    go_ret
    exact ⟨ret_bool (by simp [h1]), ((Below.refl _ _).alloc (Nat.le_refl _) _).alloc (by simp) _⟩

/-- The first k are alike. -/
def EqTm (xs ys : List Tm) (k : Nat) : Prop := ∀ i, i < k → tmAt xs i = tmAt ys i
theorem EqTm.zero (xs ys : List Tm) : EqTm xs ys 0 := fun i hi => absurd hi (by omega)
theorem EqTm.succ {xs ys : List Tm} {k : Nat} {t u : Tm} (h : EqTm xs ys k) (hx : Hid (tmAt xs k = t)) (hy : Hid (tmAt ys k = u)) (e : t = u) : EqTm xs ys (k + 1) := by
  intro i hi
  rcases Nat.lt_or_ge i k with hlt | hge
  · exact h i hlt
  · have : i = k := by omega
    subst this; rw [hx.out, hy.out]; exact e
theorem eqTm_all {xs ys : List Tm} (hl : xs.length = ys.length) (h : EqTm xs ys xs.length) : xs = ys := by
  apply List.ext_getElem hl
  intro i h1 h2
  have := h i h1
  simpa [tmAt, List.getD_eq_getElem?_getD, h1, h2] using this

set_option maxHeartbeats 800000 in
theorem eqTermS_any (a b : Option Addr) (n m c d : Nat) (xs ys : List Tm) (w : World) (hx : Terms w a n xs) (hy : Terms w b m ys) :
    Calls Tryz.prog 186 #[.slice a n c, .slice b m d] w fun e w' => e = .returned (.bool (decide (xs = ys))) ∧ Below w.heap.size w w' := by
  have HL := Lib.hid hx.1
  have HM := Lib.hid hy.1
  have hbd := hx.2.1
  have hbe := hy.2.1
  by_cases hnm : n = m
  · subst hnm
    have hne0 : ((n : Int) != (n : Int)) = false := by simp
    go_enter Tryz.func186, Tryz.ntmps186
    go_wp2
    go_loopw [5] (fun i wr => ∃ k : Nat, k ≤ n ∧ i = .int .i64 k ∧ EqTm xs ys k ∧ Below w.heap.size w wr) (fun i _ => n - (intOf i).toNat)
    case atStart => exact ⟨0, Nat.zero_le _, rfl, EqTm.zero _ _, Below.refl _ _⟩
    case round =>
      obtain ⟨k, hk, rfl, hg, hbel⟩ := hrel
      by_cases hlt : k < n
      · obtain ⟨b1, o1, x1, y1, rfl, hb1, hxk, hin1, hin2, hc1, hc2⟩ := (hx.below (Nat.le_refl _) hbel).at_ hlt
        obtain ⟨b2, o2, x2, y2, rfl, hb2, hyk, hin3, hin4, hc3, hc4⟩ := (hy.below (Nat.le_refl _) hbel).at_ hlt
        have f1 := lat_cell hb1 hc1
        have f2 := lat_cell hb1 hc2
        have f3 := lat_cell hb2 hc3
        have f4 := lat_cell hb2 hc4
        clear hc1 hc2 hc3 hc4
        obtain ⟨q, HQ⟩ : ∃ q, Hid (decide ((x1, y1) = (x2, y2)) = q) := ⟨_, rfl⟩
        have hcon : ∀ p : Lat wr, Calls Tryz.prog 220 #[.agg #[.int .i64 x1, .int .i64 y1], .agg #[.int .i64 x2, .int .i64 y2]] p.wd fun e w' => e = .returned (.bool q) ∧ Below p.wd.heap.size p.wd w' := fun p => by
          rw [← HQ.out]; exact eqTerm_any _ _ _ _ _
        have HC := Lib.hid hcon
        clear hcon
        cases q with
        | true =>
          have HE := Lib.hid (of_decide_eq_true HQ.out)
          go_wp2
          refine wp_region_lat (by kernel_rfl) (by kernel_rfl) ?_
          repeat (quiet_step ((go_at_call 220; exact lat_calls (HC.out _))))
          refine wpQuiet_nil ?_
          intro _ hw'
          obtain ⟨⟨wq, hwq⟩, hw''⟩ := hw'
          subst hw''
          have ht := hbel.trans (hwq.mono hbel.size)
          clear f1 f2 f3 f4 HC
          go_wp2
          go_roundw
          case rel => exact ⟨k + 1, by omega, by go_num, hg.succ hxk hyk HE.out, ht⟩
          case measure => simp [intOf]; omega
        | false =>
          have HE := Lib.hid (of_decide_eq_false HQ.out)
          go_wp2
          refine wp_region_lat (by kernel_rfl) (by kernel_rfl) ?_
          repeat (quiet_step ((go_at_call 220; exact lat_calls (HC.out _))))
          refine wpQuiet_nil ?_
          intro _ hw'
          obtain ⟨⟨wq, hwq⟩, hw''⟩ := hw'
          subst hw''
          have ht := hbel.trans (hwq.mono hbel.size)
          clear f1 f2 f3 f4 HC
          go_wp2
          go_ret
          exact ⟨ret_bool (decide_eq_false (fun h => HE.out (by rw [← hxk.out, ← hyk.out, h]))).symm, ht⟩
      · obtain rfl : n = k := by omega
        go_wp2
        go_ret
        exact ⟨ret_bool (decide_eq_true (eqTm_all (HL.out.trans HM.out.symm) (by rw [HL.out]; exact hg))).symm, hbel⟩
  · have hne : ((n : Int) != (m : Int)) = true := by simp; omega
    go_enter Tryz.func186, Tryz.ntmps186
    go_wp2
    go_ret
    exact ⟨ret_bool (decide_eq_false (fun h => hnm (by rw [← HL.out, ← HM.out, h]))).symm, Below.refl _ _⟩

/-- The Terms marked: k, k + 1; k + 2, k + 3; .. -/
def marksT (k : Int) (n : Nat) : List Tm := (List.range n).map (fun i : Nat => (k + 2 * (i : Int), k + 2 * (i : Int) + 1))
theorem marksT_len (k : Int) (n : Nat) : (marksT k n).length = n := by simp [marksT]
theorem marksT_at (k : Int) (n i : Nat) (h : i < n) : tmAt (marksT k n) i = (k + 2 * (i : Int), k + 2 * (i : Int) + 1) := by simp [marksT, tmAt, List.getD_eq_getElem?_getD, h]
theorem marksT_in {k : Int} {n : Nat} {t : Tm} (h : t ∈ marksT k n) (h0 : 0 ≤ k) (h1 : k ≤ 1152921504606846976) (hn : n ≤ 1048576) : InTm t := by
  obtain ⟨i, hi, rfl⟩ := List.mem_map.1 h
  have := List.mem_range.1 hi
  exact ⟨⟨by simp only []; omega, by simp only []; omega⟩, ⟨by simp only []; omega, by simp only []; omega⟩⟩
/-- The first j Terms marked. -/
def MarkT (ts : List Tm) (k : Int) (j : Nat) : List Tm := marksT k j ++ ts.drop j
theorem markT_zero (ts : List Tm) (k : Int) : MarkT ts k 0 = ts := by simp [MarkT, marksT]
theorem markT_all {ts : List Tm} {n : Nat} (k : Int) (h : ts.length = n) : MarkT ts k n = marksT k n := by subst h; simp [MarkT]
theorem markT_len {ts : List Tm} {n j : Nat} (k : Int) (h : ts.length = n) (hj : j ≤ n) : (MarkT ts k j).length = n := by simp [MarkT, marksT]; omega
theorem markT_succ {ts : List Tm} {n j : Nat} (k : Int) (h : ts.length = n) (hj : j < n) : (MarkT ts k j).set j (k + 2 * (j : Int), k + 2 * (j : Int) + 1) = MarkT ts k (j + 1) := by
  unfold MarkT
  have e1 : marksT k (j + 1) = marksT k j ++ [(k + 2 * (j : Int), k + 2 * (j : Int) + 1)] := by simp [marksT, List.range_succ]
  rw [e1, List.set_append_right _ _ (by rw [marksT_len]; exact Nat.le_refl _), marksT_len, Nat.sub_self, List.drop_eq_getElem_cons (by omega), List.set_cons_zero]
  simp

set_option maxHeartbeats 800000 in
theorem heldTermS_wide (a : Option Addr) (n c : Nat) (k : Nat) (w : World) (h : Terms w a n (marksT k n)) (hk : k ≤ 1152921504606846976) :
    Calls Tryz.prog 132 #[.slice a n c, .int .i64 (k : Int)] w fun e w' => e = .returned (.int .i64 ((k + 2 * n : Nat) : Int)) ∧ w = w' := by
  have hbd := h.2.1
  go_enter Tryz.func132, Tryz.ntmps132
  go_wp2
  go_loop [1, 5] (fun q i => ∃ j : Nat, j ≤ n ∧ i = .int .i64 j ∧ q = .int .i64 ((k + 2 * j : Nat) : Int)) (fun _ i => n - (intOf i).toNat)
  case atStart => exact ⟨0, Nat.zero_le _, rfl, rfl⟩
  case round =>
    obtain ⟨j, hj, rfl, rfl⟩ := hrel
    by_cases hlt : j < n
    · obtain ⟨b, o, x, y, rfl, hb, hz, hin1, hin2, hc1, hc2⟩ := h.at_ hlt
      have hz2 := hz.out
      rw [marksT_at _ _ _ hlt] at hz2
      injection hz2 with hx hy
      subst hx hy
      clear hz hin1 hin2
      go_wp2
      go_round
      case rel => exact ⟨j + 1, by omega, by go_num, by go_num⟩
      case measure => simp [intOf]; omega
    · obtain rfl : n = j := by omega
      go_wp2
      go_ret
      exact ⟨rfl, rfl⟩
end Go.Proofs.YtbnpoliogldohaaGreat
