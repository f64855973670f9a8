/- Joined texts of this proof (DrawTerm, InputCopies), in build order. -/
import Derived.Test.YtflojbjeloilaaaGreatJ2
import Derived.Test.YtflojbjeloilaaaGreatJ4
import Derived.Test.YtflojbjeloilaaaGreatJ3
import Derived.Deep.DeepCutAuto
/- The contracts of the model's draws of expressions. What is drawn is not told, only how long it is at most. -/
namespace Go.Proofs.YtflojbjeloilaaaGreat
open Go.RowKit

/-- How long an expression of that depth is at most. -/
def longest : Nat → Nat
  | 0 => 1
  | d + 1 => 3 * longest d + 1
theorem longest_le (d : Nat) (h : d ≤ 10) : longest d ≤ 100000 := by
  have : ∀ d : Fin 11, longest d ≤ 100000 := by decide
  exact this ⟨d, by omega⟩
theorem longest_pos (d : Nat) : 1 ≤ longest d := by cases d <;> simp [longest]

theorem inTm_small {x y : Int} (h0 : -1000000 ≤ x) (h1 : x ≤ 1000000) (h2 : -1000000 ≤ y) (h3 : y ≤ 1000000) : InTm (x, y) := ⟨⟨by simp only []; omega, by simp only []; omega⟩, ⟨by simp only []; omega, by simp only []; omega⟩⟩
theorem ownT_one (w : World) (B : Nat) (x y : Int) (h : InTm (x, y)) (hB : B ≤ w.heap.size) : OwnT (w.alloc (.cells #[.int .i64 x, .int .i64 y] 125)) B (some ⟨w.heap.size, 0, none⟩) 1 1 [(x, y)] :=
  ⟨World.ownsRow_lit w #[.int .i64 x, .int .i64 y] 1 hB (by unfold maxLen; omega) rfl, by omega, fun t ht => by rw [List.mem_singleton] at ht; subst ht; exact h⟩
theorem only_ownT {a b c : World} {p : Nat} {v : Option Addr} {n k : Nat} {ts : List Tm} (h : a.grownBy b (some p)) (ho : OwnT b a.heap.size v n k ts) (hg : b.grownBy c (Value.slice v n k).ownBlock) : a.grownBy c (some p) :=
  only_more h hg (fun g e => (ho.block g e).1)
theorem ownT_cur {a b c : World} {p : Nat} {v : Option Addr} {n k : Nat} {ts : List Tm} (ho : OwnT b a.heap.size v n k ts) (hp : p < a.heap.size) (hg : b.grownBy c (some p)) : OwnT c a.heap.size v n k ts :=
  ho.apart hg (fun g hgg e => by have := (ho.block g hgg).1; injection e with e; omega)
theorem ownT_some {w : World} {B : Nat} {a : Option Addr} {n c : Nat} {ts : List Tm} (h : OwnT w B a n c ts) (hp : 1 ≤ n) : ∃ g, a = some ⟨g, 0, none⟩ ∧ B ≤ g ∧ g < w.heap.size := by
  rcases h.1.2 with ⟨_, h0⟩ | ⟨g, cap, cur, e, hb, hg, _⟩
  · omega
  · exact ⟨g, by injection e, hb, (Array.getElem?_eq_some_iff.1 hg).1⟩
theorem ownT_empty (w : World) (B : Nat) (hB : B ≤ w.heap.size) : OwnT (w.alloc (.cells #[] 125)) B (some ⟨w.heap.size, 0, none⟩) 0 0 [] := ⟨own_emptyT w B hB, by omega, fun t ht => by simp at ht⟩

/-- 'append(out, xs...)' of Terms. -/
theorem wpList_concatT {ops : Array Oper} {rest : List Oper} {o : Oper} {ac : Act} {Q : Exit → Act → World → Prop} (w : World) (hgd : o.guard = none) (s x : Operand)
    (ho : o.op = .call { callee := .builtin .append, args := #[s, x], argTypes := #[76, 76] })
    (B : Nat) (a : Option Addr) (n c : Nat) (ts : List Tm) (hs : ac.eval s = .slice a n c) (hown : OwnT w B a n c ts)
    (b off m c2 : Nat) (us : List Tm) (hx : ac.eval x = .slice (some ⟨b, off, none⟩) m c2) (hi2 : Terms w (some ⟨b, off, none⟩) m us) (hn : n + m ≤ 1048576) (hB : B ≤ w.heap.size)
    (h : ∀ a1 c1 w', OwnT w' B a1 (n + m) c1 (ts ++ us) → GrowsTo w (.slice a n c) w' (.slice a1 (n + m) c1) → wpList Tryz.prog ops Q rest (ac.put o.dst (.slice a1 (n + m) c1)) w') : wpList Tryz.prog ops Q (o :: rest) ac w := by
  refine wpList_pushG w hgd s x 76 125 (.agg #[.int .i64 0, .int .i64 0]) 2 16 ho Tryz.underlying76 info_term rfl (by omega) B a n c (flatV ts) hs hown.1 ⟨b, off, none⟩ m c2 (flatV us) hx (by rw [flatV_len, hi2.1]) (terms_news hi2) (flatV_one us) (by unfold maxLen; omega) (by omega) hB ?_
  intro a1 c1 w' r1 r2
  refine h a1 c1 w' ⟨by rw [flatV_append]; exact r1, hn, fun t ht => ?_⟩ r2
  rcases List.mem_append.1 ht with ht | ht
  · exact hown.2.2 t ht
  · exact hi2.2.2.1 t ht

end Go.Proofs.YtflojbjeloilaaaGreat
/- The contracts of the laws' own helpers on slices of Inputs (written by tools/gen_inputs.py after TermCopies). -/
namespace Go.Proofs.YtflojbjeloilaaaGreat
open Go.RowKit

/-- A slice of Terms that the call made itself, from block B on. -/
def OwnI (w : World) (B : Nat) (a : Option Addr) (n c : Nat) (ts : List Tm) : Prop :=
  w.ownsRow B 51 2 (.slice a n c) n (flatV ts) ∧ n ≤ 1048576 ∧ ∀ t ∈ ts, InTm t

section
variable {w w' : World} {B : Nat} {a : Option Addr} {n c : Nat} {ts : List Tm}
theorem OwnI.len (h : OwnI w B a n c ts) : ts.length = n := by have := h.1.1; rw [flatV_len] at this; omega
theorem OwnI.terms (h : OwnI w B a n c ts) : Terms w a n ts := by
  have hlen := h.len
  obtain ⟨ho, hn, hin⟩ := h
  refine ⟨hlen, hn, hin, fun hp => ?_⟩
  rcases ho.2 with ⟨_, h0⟩ | ⟨g, cap, cur, e, _, hh, _⟩
  · exact absurd hp (by omega)
  · have ea : a = some ⟨g, 0, none⟩ := by injection e
    subst ea
    refine ⟨g, 0, rfl, (ho.lt g rfl).2, fun i hi => ?_⟩
    rw [Nat.zero_add, ho.cellAt (i * 2) (by omega), ho.cellAt (i * 2 + 1) (by omega)]
    exact flatV_at ts i (by omega)
theorem OwnI.below (h : OwnI w B a n c ts) (hb : Below w.heap.size w w') : OwnI w' B a n c ts :=
  ⟨h.1.kept (row := none) ⟨hb.os, hb.tape, hb.output, hb.size, fun k hk _ => hb.block k hk⟩ (by cases a <;> simp [Value.ownBlock]), h.2⟩
theorem OwnI.base {B' : Nat} (h : OwnI w B a n c ts) (hB : B' ≤ B) : OwnI w B' a n c ts := by
  refine ⟨⟨h.1.1, ?_⟩, h.2⟩
  rcases h.1.2 with hn | ⟨g, cap, cur, e, hb, r⟩
  · exact .inl hn
  · exact .inr ⟨g, cap, cur, e, by omega, r⟩
theorem OwnI.alloc (h : OwnI w B a n c ts) (o : Obj) : OwnI (w.alloc o) B a n c ts := ⟨h.1.alloc o, h.2⟩
theorem OwnI.block (h : OwnI w B a n c ts) : ∀ g, (Value.slice a n c).ownBlock = some g → B ≤ g ∧ g < w.heap.size := h.1.lt
theorem OwnI.apart {row : Option Nat} (h : OwnI w B a n c ts) (hg : w.grownBy w' row) (hr : ∀ g, (Value.slice a n c).ownBlock = some g → row ≠ some g) : OwnI w' B a n c ts := by
  refine ⟨h.1.kept hg ?_, h.2⟩
  cases hv : (Value.slice a n c).ownBlock with
  | none => exact .inl rfl
  | some g => exact .inr fun e => hr g hv e.symm
theorem OwnI.cap (h : OwnI w B a n c ts) : n ≤ c := by
  rcases h.1.2 with ⟨e, h0⟩ | ⟨g, cap, cur, e, hb, hg, hnc, _⟩
  · omega
  · injection e with e1 e2 e3
    omega
end
/-- What a function that makes a slice of the Terms ts leaves. -/
def MadeI (w : World) (ts : List Tm) (e : Ending) (w' : World) : Prop :=
  ∃ a n c, e = .returned (.slice a n c) ∧ OwnI w' w.heap.size a n c ts ∧ Below w.heap.size w w'
theorem info_input : (Tryz.prog.info? 51).map (fun i => (i.zero, i.size, i.bytes)) = some (some (.agg #[.int .i64 0, .int .i64 0]), 2, 16) := by kernel_rfl
theorem own_putI2 {w : World} {B g n cap : Nat} {ts : List Tm} (h : w.ownsRow B 51 2 (.slice (some ⟨g, 0, none⟩) n cap) n (flatV ts)) (k : Nat) (hk : k < ts.length) (x y : Int) :
    ((w.setCell ⟨g, k * 2, none⟩ (.int .i64 x)).setCell ⟨g, k * 2 + 1, none⟩ (.int .i64 y)).ownsRow B 51 2 (.slice (some ⟨g, 0, none⟩) n cap) n (flatV (ts.set k (x, y))) := by
  rw [flatV_set ts k (x, y) hk]; exact ((h.stored (k * 2) _).1.stored (k * 2 + 1) _).1
theorem own_cellI2 {w : World} {B g n cap : Nat} {ts : List Tm} (h : w.ownsRow B 51 2 (.slice (some ⟨g, 0, none⟩) n cap) n (flatV ts)) {k : Nat} (hk : k < n) :
    w.cell? ⟨g, k * 2, none⟩ = some (.int .i64 (tmAt ts k).1) ∧ w.cell? ⟨g, k * 2 + 1, none⟩ = some (.int .i64 (tmAt ts k).2) := by
  have hl : ts.length = n := by have := h.1; rw [flatV_len] at this; omega
  rw [h.cellAt (k * 2) (by omega), h.cellAt (k * 2 + 1) (by omega)]
  exact flatV_at ts k (by omega)
theorem szInputS_any (a : Option Addr) (n c : Nat) (w : World) (h : n ≤ 1048576) :
    Calls Tryz.prog 69 #[.slice a n c, .int .i64 1048576] w fun e w' => e = .returned (.int .i64 (1048576 - (n : Int))) ∧ w = w' := by
  go_enter Tryz.func69, Tryz.ntmps69
  go_wp2
  go_ret
  exact ⟨rfl, rfl⟩

theorem szInputS_big (a : Option Addr) (n c : Nat) (w : World) (h : 1048576 < n) (hm : n ≤ maxLen) :
    Calls Tryz.prog 69 #[.slice a n c, .int .i64 1048576] w fun e w' => e = .returned (.int .i64 (-1)) ∧ w = w' := by
  unfold maxLen at hm
  go_enter Tryz.func69, Tryz.ntmps69
  go_wp2
  go_ret
  exact ⟨rfl, rfl⟩
set_option maxHeartbeats 400000 in
theorem toInput_any (x y : Int) (w : World) :
    Calls Tryz.prog 106 #[.agg #[.int .i64 x, .int .i64 y]] w fun e w' => e = .returned (.agg #[.int .i64 x, .int .i64 y]) ∧ Below w.heap.size w w' := by
  go_enter Tryz.func106, Tryz.ntmps106
  go_wp2
  exact bodyPost_ret (v := .agg #[.int .i64 x, .int .i64 y]) (by simp [results, Tryz.results106, go_sem]) rfl ⟨rfl, (((Below.refl _ _).alloc (Nat.le_refl _) _).alloc (by simp) _).alloc (by simp; omega) _⟩

set_option maxHeartbeats 800000 in
theorem toInputS_any (a : Option Addr) (n c : Nat) (ts : List Tm) (w : World) (h : Terms w a n ts) :
    Calls Tryz.prog 74 #[.slice a n c] w (MadeI w ts) := by
  have HL := Lib.hid h.1
  have hbd := h.2.1
  obtain ⟨i0, hi, hz0, hz1, hz2⟩ := info_parts info_input
  have HI := Lib.hid hi
  have HZ0 := Lib.hid hz0
  have HZ1 := Lib.hid hz1
  have HZ2 := Lib.hid hz2
  clear hi hz0 hz1 hz2
  go_enter Tryz.func74, Tryz.ntmps74
  go_wp2_with (at_make; refine wpList_make_full _ rfl _ _ 24 rfl w.heap.size 51 i0 (.agg #[.int .i64 0, .int .i64 0]) 2 Tryz.underlying24 HI.out HZ0.out HZ1.out _ _ _ _ n rfl rfl rfl rfl ?b2 ?b3 ?b4 ?_)
  case b2 => rw [HZ2.out]; omega
  case b3 => unfold maxLen; omega
  case b4 => exact Nat.le_refl _
  intro w1 hown hgrow
  have hb1 : Below w.heap.size w w1 := (Below.refl _ _).grown hgrow (Nat.le_refl _) (fun k hk => by cases hk)
  have hsz : w.heap.size < w1.heap.size := (hown.lt w.heap.size rfl).2
  have HO : w1.ownsRow w.heap.size 51 2 (.slice (some ⟨w.heap.size, 0, none⟩) n n) n (flatV (CopyT ts n 0)) := by
    rw [copyT_zero, ← noughts]; exact hown
  clear hown hgrow
  go_wp2
  go_loopw [4] (fun i wr => ∃ k : Nat, k ≤ n ∧ i = .int .i64 k ∧ wr.ownsRow w.heap.size 51 2 (.slice (some ⟨w.heap.size, 0, none⟩) n n) n (flatV (CopyT ts n k)) ∧ Below w.heap.size w wr) (fun i _ => n - (intOf i).toNat)
  case atStart => exact ⟨0, Nat.zero_le _, rfl, HO, hb1⟩
  case round =>
    clear HO hb1 hsz
    obtain ⟨k, hk, rfl, hown, hbel⟩ := hrel
    by_cases hlt : k < n
    · obtain ⟨b, o, x, y, rfl, hb, hz, hin1, hin2, hc1, hc2⟩ := (h.below (Nat.le_refl _) hbel).at_ hlt
      go_wp2_with fail
      refine (toInput_any _ _ _).mono ?_
      rintro e w2 ⟨rfl, hb2⟩
      have hown2 : w2.ownsRow w.heap.size 51 2 (.slice (some ⟨w.heap.size, 0, none⟩) n n) n (flatV (CopyT ts n k)) := hown.kept (row := none) ⟨hb2.os, hb2.tape, hb2.output, hb2.size, fun k hk _ => hb2.block k hk⟩ (.inr (by simp [Value.ownBlock]))
      have hbel2 : Below w.heap.size w w2 := hbel.trans (hb2.mono hbel.size)
      obtain ⟨hd1, hd2⟩ := own_cellI2 hown2 hlt
      generalize (tmAt (CopyT ts n k) k).1 = q1 at hd1
      generalize (tmAt (CopyT ts n k) k).2 = q2 at hd2
      have hf1 := hown2.frozenAt (k * 2)
      have hf2 := hown2.frozenAt (k * 2 + 1)
      have HO2 := own_putI2 hown2 k (by rw [copyT_len HL.out hk]; exact hlt) x y
      rw [copyT_succ HL.out hlt hz] at HO2
      have hbel3 : Below w.heap.size w ((w2.setCell ⟨w.heap.size, k * 2, none⟩ (.int .i64 x)).setCell ⟨w.heap.size, k * 2 + 1, none⟩ (.int .i64 y)) := (hbel2.setCell (Nat.le_refl _) _).setCell (Nat.le_refl _) _
      clear hc1 hc2 hown hbel hown2 hbel2 hb2
      go_wp2
      go_roundw
      case rel => exact ⟨k + 1, by omega, by go_num, HO2, hbel3⟩
      case measure => simp [intOf]; omega
    · obtain rfl : n = k := by omega
      go_wp2
      go_ret
      rw [copyT_all HL.out] at hown
      exact ⟨_, _, _, rfl, ⟨hown, hbd, h.2.2.1⟩, hbel⟩
set_option maxHeartbeats 400000 in
theorem eqInput_any (x y x' y' : Int) (w : World) :
    Calls Tryz.prog 108 #[.agg #[.int .i64 x, .int .i64 y], .agg #[.int .i64 x', .int .i64 y']] w fun e w' => e = .returned (.bool (decide ((x, y) = (x', y')))) ∧ Below w.heap.size w w' := by
  by_cases h1 : x = x'
  · subst h1
    have hne0 : (x != x) = false := by simp
    by_cases h2 : y = y'
    · subst h2
      have hne1 : (y != y) = false := by simp
      go_enter Tryz.func108, Tryz.ntmps108
      go_wp2
      go_ret
      exact ⟨ret_bool (by simp), ((Below.refl _ _).alloc (Nat.le_refl _) _).alloc (by simp) _⟩
    · have hne1 : (y != y') = true := by simpa using h2
      go_enter Tryz.func108, Tryz.ntmps108
      go_wp2
      go_ret
      exact ⟨ret_bool (by simp [h2]), ((Below.refl _ _).alloc (Nat.le_refl _) _).alloc (by simp) _⟩
  · have hne1 : (x != x') = true := by simpa using h1
    go_enter Tryz.func108, Tryz.ntmps108
    go_wp2
    go_ret
    exact ⟨ret_bool (by simp [h1]), ((Below.refl _ _).alloc (Nat.le_refl _) _).alloc (by simp) _⟩

set_option maxHeartbeats 800000 in
theorem eqInputS_any (a b : Option Addr) (n m c d : Nat) (xs ys : List Tm) (w : World) (hx : Terms w a n xs) (hy : Terms w b m ys) :
    Calls Tryz.prog 77 #[.slice a n c, .slice b m d] w fun e w' => e = .returned (.bool (decide (xs = ys))) ∧ Below w.heap.size w w' := by
  have HL := Lib.hid hx.1
  have HM := Lib.hid hy.1
  have hbd := hx.2.1
  have hbe := hy.2.1
  by_cases hnm : n = m
  · subst hnm
    have hne0 : ((n : Int) != (n : Int)) = false := by simp
    go_enter Tryz.func77, Tryz.ntmps77
    go_wp2
    go_loopw [5] (fun i wr => ∃ k : Nat, k ≤ n ∧ i = .int .i64 k ∧ EqTm xs ys k ∧ Below w.heap.size w wr) (fun i _ => n - (intOf i).toNat)
    case atStart => exact ⟨0, Nat.zero_le _, rfl, EqTm.zero _ _, Below.refl _ _⟩
    case round =>
      obtain ⟨k, hk, rfl, hg, hbel⟩ := hrel
      by_cases hlt : k < n
      · obtain ⟨b1, o1, x1, y1, rfl, hb1, hxk, hin1, hin2, hc1, hc2⟩ := (hx.below (Nat.le_refl _) hbel).at_ hlt
        obtain ⟨b2, o2, x2, y2, rfl, hb2, hyk, hin3, hin4, hc3, hc4⟩ := (hy.below (Nat.le_refl _) hbel).at_ hlt
        have f1 := lat_cell hb1 hc1
        have f2 := lat_cell hb1 hc2
        have f3 := lat_cell hb2 hc3
        have f4 := lat_cell hb2 hc4
        clear hc1 hc2 hc3 hc4
        obtain ⟨q, HQ⟩ : ∃ q, Hid (decide ((x1, y1) = (x2, y2)) = q) := ⟨_, rfl⟩
        have hcon : ∀ p : Lat wr, Calls Tryz.prog 108 #[.agg #[.int .i64 x1, .int .i64 y1], .agg #[.int .i64 x2, .int .i64 y2]] p.wd fun e w' => e = .returned (.bool q) ∧ Below p.wd.heap.size p.wd w' := fun p => by
          rw [← HQ.out]; exact eqInput_any _ _ _ _ _
        have HC := Lib.hid hcon
        clear hcon
        cases q with
        | true =>
          have HE := Lib.hid (of_decide_eq_true HQ.out)
          go_wp2
          refine wp_region_lat (by kernel_rfl) (by kernel_rfl) ?_
          repeat (quiet_step ((go_at_call 108; exact lat_calls (HC.out _))))
          refine wpQuiet_nil ?_
          intro _ hw'
          obtain ⟨⟨wq, hwq⟩, hw''⟩ := hw'
          subst hw''
          have ht := hbel.trans (hwq.mono hbel.size)
          clear f1 f2 f3 f4 HC
          go_wp2
          go_roundw
          case rel => exact ⟨k + 1, by omega, by go_num, hg.succ hxk hyk HE.out, ht⟩
          case measure => simp [intOf]; omega
        | false =>
          have HE := Lib.hid (of_decide_eq_false HQ.out)
          go_wp2
          refine wp_region_lat (by kernel_rfl) (by kernel_rfl) ?_
          repeat (quiet_step ((go_at_call 108; exact lat_calls (HC.out _))))
          refine wpQuiet_nil ?_
          intro _ hw'
          obtain ⟨⟨wq, hwq⟩, hw''⟩ := hw'
          subst hw''
          have ht := hbel.trans (hwq.mono hbel.size)
          clear f1 f2 f3 f4 HC
          go_wp2
          go_ret
          exact ⟨ret_bool (decide_eq_false (fun h => HE.out (by rw [← hxk.out, ← hyk.out, h]))).symm, ht⟩
      · obtain rfl : n = k := by omega
        go_wp2
        go_ret
        exact ⟨ret_bool (decide_eq_true (eqTm_all (HL.out.trans HM.out.symm) (by rw [HL.out]; exact hg))).symm, hbel⟩
  · have hne : ((n : Int) != (m : Int)) = true := by simp; omega
    go_enter Tryz.func77, Tryz.ntmps77
    go_wp2
    go_ret
    exact ⟨ret_bool (decide_eq_false (fun h => hnm (by rw [← HL.out, ← HM.out, h]))).symm, Below.refl _ _⟩
end Go.Proofs.YtflojbjeloilaaaGreat
