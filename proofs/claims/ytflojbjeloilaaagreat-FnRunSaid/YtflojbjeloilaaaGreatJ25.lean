/- Joined texts of this proof (InRound, MarkOnly, MarkProg, EachInput, CloneInts, ImplIn), in build order. -/
import Derived.Test.YtflojbjeloilaaaGreatJ24
import Derived.StillTailTactics
import Derived.Test.YtflojbjeloilaaaGreatJ5
import Derived.Test.YtflojbjeloilaaaGreatJ1
import Derived.Test.YtflojbjeloilaaaGreatJ22
import Derived.Test.YtflojbjeloilaaaGreatJ23
import Derived.Test.YtflojbjeloilaaaGreatJ18
import Derived.Test.YtflojbjeloilaaaGreatJ17
import Derived.Test.YtflojbjeloilaaaGreatJ21
/- A region that draws its order, within a round of a range over a function: its reads in the text's order, its last step behind them. -/
namespace Go.Proofs.YtflojbjeloilaaaGreat
open Go.RowKit Go.Shelf

section
variable {P : Program} {ops : Array Oper} {Q : Exit → Act → World → Prop}
theorem opIn_of {i l n : Nat} {K K' : Act → World → Prop} (hd : ∀ (j : Nat) (o : Oper), ops[j]? = some o → ∀ c, o.op ≠ .defer c) (hQ : ¬ LetsOut Q) (hK : ∀ a w, K a w → K' a w) {a : Act} {w : World} (h : wpOp P ops Q i K a w) :
    wpOpIn (Fence.wide.inRound l) n P ops Q i K' a w := by
  unfold wpOp at h
  unfold wpOpIn
  cases ho : ops[i]? with
  | none => simp only [ho] at h ⊢; exact hK _ _ h
  | some o =>
    simp only [ho] at h ⊢
    by_cases hw : Region.wanted o (yielded ops a.tmps) = true
    · rw [if_pos hw] at h ⊢
      rcases h with h | ⟨_, h⟩
      case inr => exact absurd h hQ
      refine ⟨fun _ _ => trivial, ?_⟩
      rw [Oper.semAt_eq _ _ _ (hd i o ho)]
      unfold Oper.wp at h
      generalize (execOp a.eval o).run P w = r at h ⊢
      cases r with
      | ok nx w' =>
        cases nx with
        | value v => exact hK _ _ h
        | skip => exact hK _ _ h
        | defer d => exact hK _ _ h
        | enter f args =>
          refine ⟨fun e => by simp [Fence.wide] at e, CallsIn.inRound l (callsIn_wide.2 (Calls.mono h fun e w'' he => ?_))⟩
          cases e with
          | returned v => exact hK _ _ he
          | panicked c => exact he
          | outgrown => exact he
        | row row args =>
          exact ⟨fun e => by simp [Fence.wide] at e, fun c cs _ => let ⟨v, w'', hr, hs⟩ := h c cs; ⟨v, w'', hK _ _ hr, stepsIn_wide.2 hs⟩⟩
        | _ => exact h.elim
      | halt hl w' =>
        cases hl with
        | panic v => exact h
        | _ => exact h.elim
    · rw [if_neg hw] at h ⊢
      exact ⟨fun _ _ => trivial, hK _ _ h⟩
theorem anyIn_of {l n : Nat} {md : Region.Mode} (hd : ∀ (j : Nat) (o : Oper), ops[j]? = some o → ∀ c, o.op ≠ .defer c) (hQ : ¬ LetsOut Q) : ∀ (fuel : Nat) (listed : Array Bool) (a : Act) (w : World), wpAny P md ops Q fuel listed a w → wpAnyIn (Fence.wide.inRound l) n P md ops Q fuel listed a w
  | 0, _, _, _, h => h
  | fuel + 1, _, _, _, h => ⟨h.1, fun i hi => opIn_of hd hQ (fun a w => anyIn_of hd hQ fuel _ a w) (h.2 i hi)⟩
end
/-- The region's first n operations read; the others follow in a row. -/
theorem inRound_tail {P : Program} {id l m : Nat} {Q : Exit → Act → World → Prop} {a : Act} {w : World} {L : List Oper} (n : Nat) (hm : P.follows .mixedOrders = true) (hB : Region.lexTailB .any L.toArray n = true)
    (hd : (L.all fun o => match o.op with | .defer _ => false | _ => true) = true) (hQ : ¬ LetsOut Q)
    (h : wpStill P L.toArray { w with drawn := w.drawn + 1 } (fun a' => wpList P L.toArray Q (L.drop n) a' { w with drawn := w.drawn + 1 }) (L.take n) a) : (Code.region id L.toArray true).wpIn (Fence.wide.inRound l) m P Q a w := by
  refine wpIn_region_any hm (anyIn_of (fun j o ho c e => ?_) hQ _ _ _ _ ?_)
  · have hmem : o ∈ L := by have := Array.mem_of_getElem? ho; simpa using this
    have := List.all_eq_true.1 hd o hmem
    rw [e] at this
    cases this
  · simp only [Region.lexTailB, Bool.and_eq_true, decide_eq_true_eq] at hB
    obtain ⟨⟨⟨⟨b1, b2⟩, b3⟩, b4⟩, b5⟩ := hB
    have hlt : n < L.length := by simpa using b2
    have hh : (L.take n).length = n := by rw [List.length_take]; omega
    have ht : (L.drop n).length = L.toArray.size - n := by simp
    have H := wpAnyL_lex (md := .any) (g := L.toArray.size - n) b1 b3 b4 b2 (L.take n) 0 (Array.replicate L.toArray.size false) a (fun j hj => by rw [hh] at hj; simp [hj]) (by rw [Nat.zero_add, hh])
      ⟨by simp, fun j oj _ hl => (by rw [getD_replicate_false] at hl; cases hl), fun t _ ht' => Go.getD_in (by simpa using ht') (getD_replicate_false _ _)⟩ (by rw [hh]; exact b5) h
    have R := wpAny_of_head (Q' := Q) (g := L.toArray.size - n) (fun listed a' hL => by
      have := wpAny_of_seq (md := .any) (Q' := Q) (L.drop n) n listed a' { w with drawn := w.drawn + 1 } (fun j => by simp [List.getElem?_drop]) (by rw [ht]; exact hL.1) hL.2
      rwa [ht] at this) _ _ _ H
    rw [hh, show n + (L.toArray.size - n) = L.toArray.size by omega] at R
    exact R
end Go.Proofs.YtflojbjeloilaaaGreat
/- The marks on slices of Terms, of Inputs, of numbers, by themselves (written by tools/gen_markonly.py). -/
namespace Go.Proofs.YtflojbjeloilaaaGreat
open Go.RowKit

set_option maxHeartbeats 800000 in
theorem markTermS_w (a : Option Addr) (n c : Nat) (ts : List Tm) (k : Nat) (w : World) (B : Nat) (h : OwnT w B a n c ts) (hk : k ≤ 1152921504606846976) :
    Calls Tryz.prog 110 #[.slice a n c, .int .i64 (k : Int)] w fun e w' => e = .returned (.int .i64 ((k + 2 * n : Nat) : Int)) ∧ OwnT w' B a n c (marksT k n) ∧ w.grownBy w' (Value.slice a n c).ownBlock := by
  have HL := Lib.hid h.len
  have hbd := h.2.1
  have hin : ∀ t ∈ marksT k n, InTm t := fun t ht => marksT_in ht (by omega) (by omega) hbd
  have HIN := Lib.hid hin
  clear hin
  go_enter Tryz.func110, Tryz.ntmps110
  go_wp2
  go_loopw [1, 5] (fun q i wr => ∃ j : Nat, j ≤ n ∧ i = .int .i64 j ∧ q = .int .i64 ((k + 2 * j : Nat) : Int) ∧ wr.ownsRow B 125 2 (.slice a n c) n (flatV (MarkT ts k j)) ∧ w.grownBy wr (Value.slice a n c).ownBlock) (fun _ i _ => n - (intOf i).toNat)
  case atStart => exact ⟨0, Nat.zero_le _, rfl, rfl, by rw [markT_zero]; exact h.1, World.grownBy.refl _ _⟩
  case round =>
    obtain ⟨j, hj, rfl, rfl, hown, hgr⟩ := hrel
    by_cases hlt : j < n
    · obtain ⟨g, rfl⟩ : ∃ g, a = some ⟨g, 0, none⟩ := by
        rcases hown.2 with ⟨_, h0⟩ | ⟨g, cap, cur, e, _⟩
        · omega
        · exact ⟨g, by injection e⟩
      obtain ⟨hd1, hd2⟩ := own_cell2 hown hlt
      generalize (tmAt (MarkT ts k j) j).1 = q1 at hd1
      generalize (tmAt (MarkT ts k j) j).2 = q2 at hd2
      have hf1 := hown.frozenAt (j * 2)
      have hf2 := hown.frozenAt (j * 2 + 1)
      have HO2 := own_put2 hown j (by rw [markT_len _ HL.out hj]; exact hlt) ((k : Int) + 2 * (j : Int)) ((k : Int) + 2 * (j : Int) + 1)
      rw [markT_succ k HL.out hlt] at HO2
      have hgr1 := (hown.stored (j * 2) (.int .i64 ((k : Int) + 2 * (j : Int))))
      have hgr2 := (hgr1.1.stored (j * 2 + 1) (.int .i64 ((k : Int) + 2 * (j : Int) + 1))).2
      have hgr3 := hgr1.2
      have HG := Lib.hid (show w.grownBy ((wr.setCell ⟨g, j * 2, none⟩ (.int .i64 ((k : Int) + 2 * (j : Int)))).setCell ⟨g, j * 2 + 1, none⟩ (.int .i64 ((k : Int) + 2 * (j : Int) + 1))) (some g) from
        ⟨hgr2.os.trans (hgr3.os.trans hgr.os), hgr2.tape.trans (hgr3.tape.trans hgr.tape), hgr2.output.trans (hgr3.output.trans hgr.output), Nat.le_trans hgr.size (Nat.le_trans hgr3.size hgr2.size),
          fun b hb hne => (hgr2.block b (Nat.lt_of_lt_of_le hb (Nat.le_trans hgr.size hgr3.size)) hne).trans ((hgr3.block b (Nat.lt_of_lt_of_le hb hgr.size) hne).trans (hgr.block b hb hne))⟩)
      clear hown hgr hgr1 hgr2 hgr3
      go_wp2
      go_roundw
      case rel => exact ⟨j + 1, by omega, by go_num, by go_num, HO2, HG.out⟩
      case measure => simp [intOf]; omega
    · obtain rfl : n = j := by omega
      go_wp2
      go_ret
      rw [markT_all k HL.out] at hown
      exact ⟨rfl, ⟨hown, hbd, HIN.out⟩, hgr⟩
set_option maxHeartbeats 800000 in
theorem markInputS_w (a : Option Addr) (n c : Nat) (ts : List Tm) (k : Nat) (w : World) (B : Nat) (h : OwnI w B a n c ts) (hk : k ≤ 1152921504606846976) :
    Calls Tryz.prog 79 #[.slice a n c, .int .i64 (k : Int)] w fun e w' => e = .returned (.int .i64 ((k + 2 * n : Nat) : Int)) ∧ OwnI w' B a n c (marksT k n) ∧ w.grownBy w' (Value.slice a n c).ownBlock := by
  have HL := Lib.hid h.len
  have hbd := h.2.1
  have hin : ∀ t ∈ marksT k n, InTm t := fun t ht => marksT_in ht (by omega) (by omega) hbd
  have HIN := Lib.hid hin
  clear hin
  go_enter Tryz.func79, Tryz.ntmps79
  go_wp2
  go_loopw [1, 5] (fun q i wr => ∃ j : Nat, j ≤ n ∧ i = .int .i64 j ∧ q = .int .i64 ((k + 2 * j : Nat) : Int) ∧ wr.ownsRow B 51 2 (.slice a n c) n (flatV (MarkT ts k j)) ∧ w.grownBy wr (Value.slice a n c).ownBlock) (fun _ i _ => n - (intOf i).toNat)
  case atStart => exact ⟨0, Nat.zero_le _, rfl, rfl, by rw [markT_zero]; exact h.1, World.grownBy.refl _ _⟩
  case round =>
    obtain ⟨j, hj, rfl, rfl, hown, hgr⟩ := hrel
    by_cases hlt : j < n
    · obtain ⟨g, rfl⟩ : ∃ g, a = some ⟨g, 0, none⟩ := by
        rcases hown.2 with ⟨_, h0⟩ | ⟨g, cap, cur, e, _⟩
        · omega
        · exact ⟨g, by injection e⟩
      obtain ⟨hd1, hd2⟩ := own_cellI2 hown hlt
      generalize (tmAt (MarkT ts k j) j).1 = q1 at hd1
      generalize (tmAt (MarkT ts k j) j).2 = q2 at hd2
      have hf1 := hown.frozenAt (j * 2)
      have hf2 := hown.frozenAt (j * 2 + 1)
      have HO2 := own_putI2 hown j (by rw [markT_len _ HL.out hj]; exact hlt) ((k : Int) + 2 * (j : Int)) ((k : Int) + 2 * (j : Int) + 1)
      rw [markT_succ k HL.out hlt] at HO2
      have hgr1 := (hown.stored (j * 2) (.int .i64 ((k : Int) + 2 * (j : Int))))
      have hgr2 := (hgr1.1.stored (j * 2 + 1) (.int .i64 ((k : Int) + 2 * (j : Int) + 1))).2
      have hgr3 := hgr1.2
      have HG := Lib.hid (show w.grownBy ((wr.setCell ⟨g, j * 2, none⟩ (.int .i64 ((k : Int) + 2 * (j : Int)))).setCell ⟨g, j * 2 + 1, none⟩ (.int .i64 ((k : Int) + 2 * (j : Int) + 1))) (some g) from
        ⟨hgr2.os.trans (hgr3.os.trans hgr.os), hgr2.tape.trans (hgr3.tape.trans hgr.tape), hgr2.output.trans (hgr3.output.trans hgr.output), Nat.le_trans hgr.size (Nat.le_trans hgr3.size hgr2.size),
          fun b hb hne => (hgr2.block b (Nat.lt_of_lt_of_le hb (Nat.le_trans hgr.size hgr3.size)) hne).trans ((hgr3.block b (Nat.lt_of_lt_of_le hb hgr.size) hne).trans (hgr.block b hb hne))⟩)
      clear hown hgr hgr1 hgr2 hgr3
      go_wp2
      go_roundw
      case rel => exact ⟨j + 1, by omega, by go_num, by go_num, HO2, HG.out⟩
      case measure => simp [intOf]; omega
    · obtain rfl : n = j := by omega
      go_wp2
      go_ret
      rw [markT_all k HL.out] at hown
      exact ⟨rfl, ⟨hown, hbd, HIN.out⟩, hgr⟩
set_option maxHeartbeats 400000 in
theorem markInt64S_w (a : Option Addr) (n c : Nat) (zs : List Int) (k : Nat) (w : World) (B : Nat) (h : Own w B a n c zs) (hk : k ≤ 1152921504606846976) :
    Calls Tryz.prog 38 #[.slice a n c, .int .i64 (k : Int)] w fun e w' => e = .returned (.int .i64 ((k + n : Nat) : Int)) ∧ Own w' B a n c (marks k n) ∧ w.grownBy w' (Value.slice a n c).ownBlock := by
  have HL := Lib.hid h.len
  have hbd := h.2.1
  have hin : ∀ z ∈ marks k n, In64 z := fun z hz => by have := marks_mem hz; exact ⟨by omega, by omega⟩
  have HIN := Lib.hid hin
  clear hin
  go_enter Tryz.func38, Tryz.ntmps38
  go_wp2
  go_loopw [1, 5] (fun q i wr => ∃ j : Nat, j ≤ n ∧ i = .int .i64 j ∧ q = .int .i64 ((k + j : Nat) : Int) ∧ wr.ownsRow B 2 1 (.slice a n c) n ((MarkTo zs k j).map (Value.int .i64)) ∧ w.grownBy wr (Value.slice a n c).ownBlock) (fun _ i _ => n - (intOf i).toNat)
  case atStart => exact ⟨0, Nat.zero_le _, rfl, rfl, by rw [markTo_zero]; exact h.1, World.grownBy.refl _ _⟩
  case round =>
    obtain ⟨j, hj, rfl, rfl, hown, hgr⟩ := hrel
    by_cases hlt : j < n
    · obtain ⟨g, rfl⟩ : ∃ g, a = some ⟨g, 0, none⟩ := by
        rcases hown.2 with ⟨_, h0⟩ | ⟨g, cap, cur, e, _⟩
        · omega
        · exact ⟨g, by injection e⟩
      have hc2 := own_cell hown hlt
      generalize (MarkTo zs k j).getD j 0 = y at hc2
      have hf2 := hown.frozenAt j
      have HO2 := own_put hown j ((k : Int) + (j : Int))
      rw [markTo_succ k HL.out hlt] at HO2
      have hgr2 := (hown.stored j (.int .i64 ((k : Int) + (j : Int)))).2
      have HG := Lib.hid (show w.grownBy (wr.setCell ⟨g, j, none⟩ (.int .i64 ((k : Int) + (j : Int)))) (some g) from
        ⟨hgr2.os.trans hgr.os, hgr2.tape.trans hgr.tape, hgr2.output.trans hgr.output, Nat.le_trans hgr.size hgr2.size,
          fun b hb hne => (hgr2.block b (Nat.lt_of_lt_of_le hb hgr.size) hne).trans (hgr.block b hb hne)⟩)
      clear hown hgr hgr2
      go_wp2
      go_roundw
      case rel => exact ⟨j + 1, by omega, by go_num, by go_num, HO2, HG.out⟩
      case measure => simp [intOf]; omega
    · obtain rfl : n = j := by omega
      go_wp2
      go_ret
      rw [markTo_all k HL.out] at hown
      exact ⟨rfl, ⟨hown, hbd, HIN.out⟩, hgr⟩
end Go.Proofs.YtflojbjeloilaaaGreat
/- The laws' own marks on programs (markStmtS, markProg): only a program's own blocks turn. -/
namespace Go.Proofs.YtflojbjeloilaaaGreat
open Go.RowKit

/-- A body under way: its cells rs', each slice of it where rs has it. -/
structure MarkRel (w wr : World) (lo hi B : Nat) (a : Option Addr) (n c : Nat) (rs rs' : List SRow) : Prop where
  row : wr.ownsRow B 79 4 (.slice a n c) n (flatS rs')
  same : ∀ i, i < n → (srAt rs' i).at_ = (srAt rs i).at_ ∧ (srAt rs' i).exp = (srAt rs i).exp
  one : ∀ i, i < n → ∃ ts, OwnT wr B (srAt rs i).at_.1 (srAt rs i).at_.2.1 (srAt rs i).at_.2.2 ts
  two : ∀ i, i < n → ∃ us, OwnT wr B (srAt rs i).exp.1 (srAt rs i).exp.2.1 (srAt rs i).exp.2.2 us
  span : Span lo hi w wr
theorem at_mem {r : SRow} {g : Nat} (h : (slV r.at_).ownBlock = some g) : g ∈ blksOf r := by simp [blksOf, h]
theorem exp_mem {r : SRow} {g : Nat} (h : (slV r.exp).ownBlock = some g) : g ∈ blksOf r := by simp [blksOf, h]
section
variable {w wr wx : World} {lo hi B n c g k : Nat} {a : Option Addr} {rs rs' : List SRow}
theorem MarkRel.len (h : MarkRel w wr lo hi B a n c rs rs') : rs'.length = n := by have := h.row.1; rw [flatS_len] at this; omega
/-- Two numbers are written. -/
theorem MarkRel.nums (h : MarkRel w wr lo hi B (some ⟨g, 0, none⟩) n c rs rs') (hk : k < n) (x y : Int) (hg : lo ≤ g ∧ g < hi) :
    MarkRel w ((wr.setCell ⟨g, k * 4, none⟩ (.int .i64 x)).setCell ⟨g, k * 4 + 1, none⟩ (.int .i64 y)) lo hi B (some ⟨g, 0, none⟩) n c rs (rs'.set k ⟨x, y, (srAt rs' k).at_, (srAt rs' k).exp⟩) := by
  have hl := h.len
  have s1 := h.row.stored (k * 4) (.int .i64 x)
  have s2 := s1.1.stored (k * 4 + 1) (.int .i64 y)
  have ef : flatS (rs'.set k ⟨x, y, (srAt rs' k).at_, (srAt rs' k).exp⟩) = ((flatS rs').set (k * 4) (.int .i64 x)).set (k * 4 + 1) (.int .i64 y) := by
    rw [flatS_set _ _ _ (by omega)]
    simp only []
    have e2 := flatS_at rs' k 2 (by omega) (by omega)
    have e3 := flatS_at rs' k 3 (by omega) (by omega)
    rw [list_set_same (i := k * 4 + 2), list_set_same (i := k * 4 + 3)]
    · rw [List.getElem?_set_ne (by omega), List.getElem?_set_ne (by omega), e3]; rfl
    · rw [List.getElem?_set_ne (by omega), List.getElem?_set_ne (by omega), e2]; rfl
  have hs : ∀ g', g' = g → Span lo hi wr ((wr.setCell ⟨g, k * 4, none⟩ (.int .i64 x)).setCell ⟨g, k * 4 + 1, none⟩ (.int .i64 y)) := fun g' _ => (Span.set wr _ hg.1 hg.2).trans (Span.set _ _ hg.1 hg.2)
  have kt : ∀ {s : Sl} {ts : List Tm}, OwnT wr B s.1 s.2.1 s.2.2 ts → OwnT ((wr.setCell ⟨g, k * 4, none⟩ (.int .i64 x)).setCell ⟨g, k * 4 + 1, none⟩ (.int .i64 y)) B s.1 s.2.1 s.2.2 ts := fun {s ts} ho => by
    have h1 : OwnT (wr.setCell ⟨g, k * 4, none⟩ (.int .i64 x)) B s.1 s.2.1 s.2.2 ts := ho.apart (grown_set _ _ _ _) (fun g' hg' e => by injection e with e; subst e; exact own_kinds ho.1 h.row (by decide) hg' rfl)
    exact h1.apart (grown_set _ _ _ _) (fun g' hg' e => by injection e with e; subst e; exact own_kinds h1.1 s1.1 (by decide) hg' rfl)
  refine ⟨by rw [ef]; exact s2.1, fun i hi' => ?_, fun i hi' => ?_, fun i hi' => ?_, h.span.trans (hs g rfl)⟩
  · have := h.same i hi'
    by_cases e : i = k
    · subst e
      rw [show srAt (rs'.set i ⟨x, y, (srAt rs' i).at_, (srAt rs' i).exp⟩) i = ⟨x, y, (srAt rs' i).at_, (srAt rs' i).exp⟩ by simp [srAt, List.getD_eq_getElem?_getD, hl, hi']]
      exact this
    · rw [show srAt (rs'.set k ⟨x, y, (srAt rs' k).at_, (srAt rs' k).exp⟩) i = srAt rs' i by rw [srAt, List.getD_eq_getElem?_getD, List.getElem?_set_ne (Ne.symm e), srAt, List.getD_eq_getElem?_getD]]
      exact this
  · obtain ⟨ts, ho⟩ := h.one i hi'; exact ⟨ts, kt ho⟩
  · obtain ⟨ts, ho⟩ := h.two i hi'; exact ⟨ts, kt ho⟩
/-- A row's first slice, its second one is marked. -/
theorem MarkRel.at_ (h : MarkRel w wr lo hi B a n c rs rs') (hk : k < n) (hl : rs.length = n) (hn : (blks rs).Nodup) (hin : ∀ g ∈ blks rs, lo ≤ g ∧ g < hi) {ts : List Tm} (ho : OwnT wx B (srAt rs k).at_.1 (srAt rs k).at_.2.1 (srAt rs k).at_.2.2 ts) (hg : wr.grownBy wx (slV (srAt rs k).at_).ownBlock) : MarkRel w wx lo hi B a n c rs rs' := by
  have hm : ∀ i, i < n → ∀ g, g ∈ blksOf (srAt rs i) → g ∈ blks rs := fun i hi g hg => List.mem_flatMap.2 ⟨srAt rs i, by simp [srAt, List.getD_eq_getElem?_getD, hl, hi], hg⟩
  obtain ⟨t0, h0⟩ := h.one k hk
  refine ⟨h.row.kept hg ?_, h.same, fun i hi => ?_, fun i hi => ?_, h.span.trans (Span.of_grown hg (fun g e => hin g (hm k hk g (at_mem e))))⟩
  · cases hv : (Value.slice a n c).ownBlock with
    | none => exact .inl rfl
    | some g => exact .inr fun e => own_kinds h.row h0.1 (by decide) hv e.symm
  · by_cases e : i = k
    · subst e; exact ⟨ts, ho⟩
    · obtain ⟨us, hu⟩ := h.one i hi
      exact ⟨us, hu.apart hg (fun g hgg e' => blks_apart hn (by omega) (by omega) e (at_mem hgg) (at_mem e'))⟩
  · obtain ⟨us, hu⟩ := h.two i hi
    refine ⟨us, hu.apart hg (fun g hgg e' => ?_)⟩
    by_cases e : i = k
    · subst e; exact blks_self hn (by omega) e' hgg
    · exact blks_apart hn (by omega) (by omega) e (exp_mem hgg) (at_mem e')
theorem MarkRel.exp (h : MarkRel w wr lo hi B a n c rs rs') (hk : k < n) (hl : rs.length = n) (hn : (blks rs).Nodup) (hin : ∀ g ∈ blks rs, lo ≤ g ∧ g < hi) {ts : List Tm} (ho : OwnT wx B (srAt rs k).exp.1 (srAt rs k).exp.2.1 (srAt rs k).exp.2.2 ts) (hg : wr.grownBy wx (slV (srAt rs k).exp).ownBlock) : MarkRel w wx lo hi B a n c rs rs' := by
  have hm : ∀ i, i < n → ∀ g, g ∈ blksOf (srAt rs i) → g ∈ blks rs := fun i hi g hg => List.mem_flatMap.2 ⟨srAt rs i, by simp [srAt, List.getD_eq_getElem?_getD, hl, hi], hg⟩
  obtain ⟨t0, h0⟩ := h.two k hk
  refine ⟨h.row.kept hg ?_, h.same, fun i hi => ?_, fun i hi => ?_, h.span.trans (Span.of_grown hg (fun g e => hin g (hm k hk g (exp_mem e))))⟩
  · cases hv : (Value.slice a n c).ownBlock with
    | none => exact .inl rfl
    | some g => exact .inr fun e => own_kinds h.row h0.1 (by decide) hv e.symm
  · obtain ⟨us, hu⟩ := h.one i hi
    refine ⟨us, hu.apart hg (fun g hgg e' => ?_)⟩
    by_cases e : i = k
    · subst e; exact blks_self hn (by omega) hgg e'
    · exact blks_apart hn (by omega) (by omega) e (at_mem hgg) (exp_mem e')
  · by_cases e : i = k
    · subst e; exact ⟨ts, ho⟩
    · obtain ⟨us, hu⟩ := h.two i hi
      exact ⟨us, hu.apart hg (fun g hgg e' => blks_apart hn (by omega) (by omega) e (exp_mem hgg) (exp_mem e'))⟩
theorem MarkRel.at_k (h : MarkRel w wr lo hi B a n c rs rs') (hk : k < n) : ∃ (g : Nat) (x y : Int) (a1 a2 : Option Addr) (n1 c1 n2 c2 : Nat), a = some ⟨g, 0, none⟩ ∧ Hid (srAt rs k = srAt rs k) ∧ Hid ((srAt rs k).at_ = (a1, n1, c1)) ∧ Hid ((srAt rs k).exp = (a2, n2, c2)) ∧ wr.cell? ⟨g, k * 4, none⟩ = some (.int .i64 x) ∧ wr.cell? ⟨g, k * 4 + 1, none⟩ = some (.int .i64 y) ∧ wr.cell? ⟨g, k * 4 + 2, none⟩ = some (.slice a1 n1 c1) ∧ wr.cell? ⟨g, k * 4 + 3, none⟩ = some (.slice a2 n2 c2) := by
  have hl := h.len
  rcases h.row.2 with ⟨_, h0⟩ | ⟨g, cap, cur, e, _⟩
  · omega
  have ea : a = some ⟨g, 0, none⟩ := by injection e
  subst ea
  have e0 := flatS_at rs' k 0 (by omega) (by omega)
  have e1 := flatS_at rs' k 1 (by omega) (by omega)
  have e2 := flatS_at rs' k 2 (by omega) (by omega)
  have e3 := flatS_at rs' k 3 (by omega) (by omega)
  obtain ⟨s1, s2⟩ := h.same k hk
  have hr := h.row
  have q0 := hr.cellAt (k * 4) (by omega)
  have q1 := hr.cellAt (k * 4 + 1) (by omega)
  have q2 := hr.cellAt (k * 4 + 2) (by omega)
  have q3 := hr.cellAt (k * 4 + 3) (by omega)
  rw [Nat.add_zero] at e0
  rw [e0] at q0
  rw [e1] at q1
  rw [e2] at q2
  rw [e3] at q3
  refine ⟨g, _, _, _, _, _, _, _, _, rfl, Lib.hid rfl, Lib.hid rfl, Lib.hid rfl, q0, q1, ?_, ?_⟩
  · rw [q2]
    show some (slV (srAt rs' k).at_) = some (slV (srAt rs k).at_)
    rw [s1]
  · rw [q3]
    show some (slV (srAt rs' k).exp) = some (slV (srAt rs k).exp)
    rw [s2]
end
/-- What marks leave. -/
def Marked (w : World) (lo hi top : Nat) (e : Ending) (w' : World) : Prop := ∃ m : Nat, e = .returned (.int .i64 (m : Int)) ∧ m ≤ top ∧ Span lo hi w w'
set_option maxHeartbeats 1600000 in
theorem markStmtS_any (a : Option Addr) (n c : Nat) (rs : List SRow) (ss : List Stm) (k : Nat) (w : World) (B lo hi : Nat) (h : OwnStmts w B a n c rs ss) (hb : SlIn lo hi (a, n, c)) (hin : ∀ g ∈ blks rs, lo ≤ g ∧ g < hi) (hk : k ≤ 1125899906842624) :
    Calls Tryz.prog 80 #[.slice a n c, .int .i64 (k : Int)] w (Marked w lo hi (k + n * 4194306)) := by
  have HL := Lib.hid h.len
  have hbd := h.2.1
  have HN := Lib.hid h.2.2.2.2
  have HIN := Lib.hid hin
  have HSB := Lib.hid hb
  have HREL : Hid (MarkRel w w lo hi B a n c rs rs) := Lib.hid ⟨h.1, fun i hi => ⟨rfl, rfl⟩, fun i hi => ⟨_, (h.2.2.2.1 i hi).2.2.2.2.1⟩, fun i hi => ⟨_, (h.2.2.2.1 i hi).2.2.2.2.2⟩, Span.refl _ _ _⟩
  clear h hb hin
  go_enter Tryz.func80, Tryz.ntmps80
  go_wp2
  go_loopw [1, 5] (fun q i wr => ∃ (j p : Nat) (rs' : List SRow), j ≤ n ∧ i = .int .i64 j ∧ q = .int .i64 (p : Int) ∧ p ≤ k + j * 4194306 ∧ MarkRel w wr lo hi B a n c rs rs') (fun _ i _ => n - (intOf i).toNat)
  case atStart => exact ⟨0, k, rs, Nat.zero_le _, rfl, rfl, by omega, HREL.out⟩
  case round =>
    clear HREL
    obtain ⟨j, p, rs', hj, rfl, rfl, hp, hrel⟩ := hrel
    by_cases hlt : j < n
    · obtain ⟨g, x, y, a1, a2, n1, c1, n2, c2, rfl, _, hs1, hs2, hc0, hc1, hc2, hc3⟩ := hrel.at_k hlt
      have hf0 := hrel.row.frozenAt (j * 4)
      have hf1 := hrel.row.frozenAt (j * 4 + 1)
      have hR1 := hrel.nums hlt (p : Int) ((p : Int) + 1) (HSB.out g rfl)
      have hp60 : p ≤ 1125904304889344 + 1125899906842624 := by
        have : j * 4194306 ≤ 1048576 * 4194306 := Nat.mul_le_mul_right _ (by omega)
        omega
      have HP := Lib.hid hp
      clear hp hrel
      go_wp2_with fail
      obtain ⟨wx, HW⟩ : ∃ wx, Hid (wx = (wr.setCell ⟨g, j * 4, none⟩ (.int .i64 p)).setCell ⟨g, j * 4 + 1, none⟩ (.int .i64 ((p : Int) + 1))) := ⟨_, rfl⟩
      rw [← HW.out]
      rw [← HW.out] at hR1
      clear hc0 hc1 hc2 hc3 hf0 hf1
      obtain ⟨g', x', y', a1', a2', n1', c1', n2', c2', eg, _, hs1', hs2', _, _, hd2, hd3⟩ := hR1.at_k hlt
      have eg' : g = g' := by injection eg with eg; injection eg with eg
      have e1 := hs1.out.symm.trans hs1'.out
      have e2 := hs2.out.symm.trans hs2'.out
      injection e1 with e11 e12; injection e12 with e12 e13
      injection e2 with e21 e22; injection e22 with e22 e23
      subst eg' e11 e12 e13 e21 e22 e23
      clear hs1' hs2' eg HW
      obtain ⟨ts, hts⟩ := hR1.one j hlt
      have hts' := hts
      rw [hs1.out] at hts'
      have HN1 := hts'.2.1
      go_wp2_with fail
      refine (markTermS_w _ _ _ ts (p + 2) _ B hts' (by omega)).mono ?_
      rintro e w2 ⟨rfl, hot, hg2⟩
      have hR2 := hR1.at_ hlt HL.out HN.out HIN.out (ts := marksT ((p + 2 : Nat) : Int) n1) (by rw [hs1.out]; exact hot) (by rw [hs1.out]; exact hg2)
      clear hot hg2 hts hts' hd2 hd3 hR1
      obtain ⟨g', x'', y'', a1', a2', n1', c1', n2', c2', eg, _, hs1', hs2', _, _, hd2, hd3⟩ := hR2.at_k hlt
      have eg' : g = g' := by injection eg with eg; injection eg with eg
      have e1 := hs1.out.symm.trans hs1'.out
      have e2 := hs2.out.symm.trans hs2'.out
      injection e1 with e11 e12; injection e12 with e12 e13
      injection e2 with e21 e22; injection e22 with e22 e23
      subst eg' e11 e12 e13 e21 e22 e23
      clear hs1' hs2' eg
      obtain ⟨us, hus⟩ := hR2.two j hlt
      have hus' := hus
      rw [hs2.out] at hus'
      have HN2 := hus'.2.1
      go_wp2_with fail
      refine (markTermS_w _ _ _ us (p + 2 + 2 * n1) _ B hus' (by omega)).mono ?_
      rintro e w3 ⟨rfl, hot, hg2⟩
      have hR3 := Lib.hid (hR2.exp hlt HL.out HN.out HIN.out (ts := marksT ((p + 2 + 2 * n1 : Nat) : Int) n2) (by rw [hs2.out]; exact hot) (by rw [hs2.out]; exact hg2))
      clear hot hg2 hus hus' hd2 hd3 hR2
      go_wp2
      go_roundw
      case rel => exact ⟨j + 1, p + 2 + 2 * n1 + 2 * n2, _, by omega, by go_num, by go_num, by have := HP.out; rw [Nat.add_mul]; omega, hR3.out⟩
      case measure => simp [intOf]; omega
    · obtain rfl : n = j := by omega
      have HS := Lib.hid hrel.span
      clear hrel
      go_wp2
      go_ret
      exact ⟨p, rfl, hp, HS.out⟩
theorem Own.only {w w' : World} {B n c lo hi : Nat} {a : Option Addr} {zs : List Int} (h : Own w B a n c zs) (hs : Span lo hi w w') (hv : ∀ g, (Value.slice a n c).ownBlock = some g → g < lo ∨ hi ≤ g) : Own w' B a n c zs := ⟨ownsRow_span h.1 hs hv, h.2⟩
theorem OwnI.kept {w w' : World} {B n c : Nat} {a : Option Addr} {ts : List Tm} {row : Option Nat} (h : OwnI w B a n c ts) (hg : w.grownBy w' row) (hr : ∀ g, (Value.slice a n c).ownBlock = some g → row ≠ some g) : OwnI w' B a n c ts := h.apart hg hr
theorem OwnStmts.kept {w w' : World} {B n c : Nat} {a : Option Addr} {rs : List SRow} {ss : List Stm} {row : Option Nat} (h : OwnStmts w B a n c rs ss) (hg : w.grownBy w' row) (hr : ∀ g, (Value.slice a n c).ownBlock = some g → row ≠ some g) (hi : ∀ i, i < n → (∀ g, (slV (srAt rs i).at_).ownBlock = some g → row ≠ some g) ∧ ∀ g, (slV (srAt rs i).exp).ownBlock = some g → row ≠ some g) : OwnStmts w' B a n c rs ss := by
  refine ⟨h.1.kept hg ?_, h.2.1, h.2.2.1, fun i hi' => ?_, h.2.2.2.2⟩
  · cases hv : (Value.slice a n c).ownBlock with
    | none => exact .inl rfl
    | some g => exact .inr fun e => hr g hv e.symm
  · obtain ⟨h1, h2, h3, h4, h5, h6⟩ := h.2.2.2.1 i hi'
    exact ⟨h1, h2, h3, h4, h5.apart hg (hi i hi').1, h6.apart hg (hi i hi').2⟩
set_option maxRecDepth 20000 in
set_option maxHeartbeats 3200000 in
theorem markProg_any (r : PRow) (p : Prg) (k : Nat) (w : World) (B lo hi : Nat) (h : OwnProg w B r p) (hin : ProgIn lo hi r) (hk : k ≤ 4194304) :
    Calls Tryz.prog 37 #[progV r, .int .i64 (k : Int)] w (Marked w lo hi 9007199254740992) := by
  obtain ⟨wd, ⟨a1, n1, c1⟩, ⟨a2, n2, c2⟩, tp, ⟨a3, n3, c3⟩, ⟨a4, n4, c4⟩, rows⟩ := r
  have H1 := Lib.hid h.lows
  have H2 := Lib.hid h.secrets
  have H3 := Lib.hid h.arrays
  have H4 := Lib.hid h.body
  have HAP := Lib.hid h.apart
  have HIN := Lib.hid hin
  have b1 := h.lows.2.1
  have b2 := h.secrets.2.1
  have b3 := h.arrays.2.1
  have b4 := h.body.2.1
  clear h hin
  show Calls Tryz.prog 37 #[.agg #[.int .i64 wd, .slice a1 n1 c1, .slice a2 n2 c2, .int .i64 tp, .slice a3 n3 c3, .slice a4 n4 c4], .int .i64 (k : Int)] w _
  obtain ⟨wa, HW⟩ : ∃ wa, Hid (wa = w.alloc (.cells #[.int .i64 wd, .slice a1 n1 c1, .slice a2 n2 c2, .int .i64 tp, .slice a3 n3 c3, .slice a4 n4 c4] 28)) := ⟨_, rfl⟩
  have BX : Blk wa w.heap.size 28 [.int .i64 wd, .slice a1 n1 c1, .slice a2 n2 c2, .int .i64 tp, .slice a3 n3 c3, .slice a4 n4 c4] := by rw [HW.out]; exact Blk.new w _ _
  have HBA : Below w.heap.size w wa := by rw [HW.out]; exact (Below.refl _ _).alloc (Nat.le_refl _) _
  have HS : Span lo hi w wa := Span.of_below HBA
  have hbx := BX.lt
  simp only [] at H1 H2 H3 H4 HAP b1 b2 b3 b4
  have G1 := H1.out.below HBA
  have G2 := H2.out.below HBA
  have G3 := H3.out.below HBA
  have G4 := H4.out.below HBA
  clear H1 H2 H3 H4
  have t1 := BX.cell (j := 1) rfl
  rw [HW.out] at t1
  go_enter Tryz.func37, Tryz.ntmps37
  go_wp2_with fail
  rw [← HW.out]
  refine (markInputS_w a1 n1 c1 _ k _ B G1 (by omega)).mono ?_
  rintro e w1 ⟨rfl, _, hg⟩
  have G2 := G2.apart hg (fun g hgg e => HAP.out g e hgg)
  have G3 := G3.keep hg (fun g hgg e => own_kinds G3.1 G1.1 (by decide) hgg e)
  have G4 := OwnStmts.kept G4 hg (fun g hgg e => own_kinds G4.1 G1.1 (by decide) hgg e) (fun i hi => ⟨fun g hgg e => own_kinds (G4.2.2.2.1 i hi).2.2.2.2.1.1 G1.1 (by decide) hgg e, fun g hgg e => own_kinds (G4.2.2.2.1 i hi).2.2.2.2.2.1 G1.1 (by decide) hgg e⟩)
  have BX := blk_stay BX hg (fun e => blk_apart BX G1.1 (by decide) _ e rfl)
  have HS := HS.trans (Span.of_grown hg (fun g e => HIN.out.lows g e))
  clear G1 hg t1 HW HBA
  have t2 := BX.cell (j := 2) rfl
  go_wp2_with fail
  refine (markInputS_w a2 n2 c2 _ (k + 2 * n1) _ B G2 (by omega)).mono ?_
  rintro e w2 ⟨rfl, _, hg⟩
  have G3 := G3.keep hg (fun g hgg e => own_kinds G3.1 G2.1 (by decide) hgg e)
  have G4 := OwnStmts.kept G4 hg (fun g hgg e => own_kinds G4.1 G2.1 (by decide) hgg e) (fun i hi => ⟨fun g hgg e => own_kinds (G4.2.2.2.1 i hi).2.2.2.2.1.1 G2.1 (by decide) hgg e, fun g hgg e => own_kinds (G4.2.2.2.1 i hi).2.2.2.2.2.1 G2.1 (by decide) hgg e⟩)
  have BX := blk_stay BX hg (fun e => blk_apart BX G2.1 (by decide) _ e rfl)
  have HS := HS.trans (Span.of_grown hg (fun g e => HIN.out.secrets g e))
  clear G2 hg t2
  have t3 := BX.cell (j := 4) rfl
  go_wp2_with fail
  refine (markInt64S_w a3 n3 c3 _ (k + 2 * n1 + 2 * n2) _ B G3 (by omega)).mono ?_
  rintro e w3 ⟨rfl, _, hg⟩
  have G4 := OwnStmts.kept G4 hg (fun g hgg e => own_kinds G4.1 G3.1 (by decide) hgg e) (fun i hi => ⟨fun g hgg e => own_kinds (G4.2.2.2.1 i hi).2.2.2.2.1.1 G3.1 (by decide) hgg e, fun g hgg e => own_kinds (G4.2.2.2.1 i hi).2.2.2.2.2.1 G3.1 (by decide) hgg e⟩)
  have BX := blk_stay BX hg (fun e => blk_apart BX G3.1 (by decide) _ e rfl)
  have HS := HS.trans (Span.of_grown hg (fun g e => HIN.out.arrays g e))
  clear G3 hg t3
  have t4 := BX.cell (j := 5) rfl
  go_wp2_with fail
  refine (markStmtS_any a4 n4 c4 rows _ (k + 2 * n1 + 2 * n2 + n3) _ B lo hi G4 HIN.out.body HIN.out.rows (by omega)).mono ?_
  rintro e w4 ⟨m, rfl, hm, hs⟩
  have HS := Lib.hid (HS.trans hs)
  have hm2 : m ≤ 9007199254740992 := by
    have : n4 * 4194306 ≤ 1048576 * 4194306 := Nat.mul_le_mul_right _ b4
    omega
  clear hs t4 hm
  go_wp2
  go_ret
  exact ⟨m, rfl, hm2, HS.out⟩
end Go.Proofs.YtflojbjeloilaaaGreat
/- The contracts of the program's countOn and eachInput. -/
namespace Go.Proofs.YtflojbjeloilaaaGreat
open Go.RowKit Go.Shelf
attribute [local go_sem] Oper.semAt_some

theorem OwnI.only {w w' : World} {B n c lo hi : Nat} {a : Option Addr} {ts : List Tm} (h : OwnI w B a n c ts) (hs : Span lo hi w w') (hv : ∀ g, (Value.slice a n c).ownBlock = some g → g < lo ∨ hi ≤ g) : OwnI w' B a n c ts := ⟨ownsRow_span h.1 hs hv, h.2⟩
theorem own_at {w : World} {B : Nat} {a : Option Addr} {n c k : Nat} {zs : List Int} (h : Own w B a n c zs) (hk : k < zs.length) : ∃ gv, a = some ⟨gv, 0, none⟩ ∧ w.cell? ⟨gv, k, none⟩ = some (.int .i64 (zs.getD k 0)) ∧ w.frozen? ⟨gv, k, none⟩ = false ∧ gv < w.heap.size := by
  have hl := h.len
  rcases h.1.2 with ⟨_, h0⟩ | ⟨gv, cap, cur, e, hb, hh, hr⟩
  · omega
  · injection e with e1 e2 e3
    subst e1 e3
    exact ⟨gv, rfl, own_cell h.1 (by omega), h.1.frozenAt k, (Array.getElem?_eq_some_iff.1 hh).1⟩
theorem Span.drewN {lo hi : Nat} (W : World) (q : Nat) : Span lo hi W (W.drewN q) := ⟨rfl, rfl, rfl, Nat.le_refl _, fun _ _ _ => rfl⟩
set_option maxRecDepth 20000 in
set_option maxHeartbeats 1600000 in
theorem countOn_any (ai av : Option Addr) (L ci cv : Nat) (ts : List Tm) (zs : List Int) (w : World) (B0 B : Nat) (h : OwnI w B0 ai L ci ts) (hb : ∀ g, (Value.slice ai L ci).ownBlock = some g → g < B) (hv : Own w B av L cv zs) (hz : ∀ z ∈ zs, 0 ≤ z ∧ z ≤ 255) (M : Nat) (hM : ∀ g, (Value.slice av L cv).ownBlock = some g → g < M) :
    Calls Tryz.prog 96 #[.slice ai L ci, .slice av L cv] w fun e w' => e = .returned (.bool (nextD (maxesL ts) zs).2) ∧ Own w' B av L cv (nextD (maxesL ts) zs).1 ∧ Span B M w w' := by
  have HI := Lib.hid h
  have HBB := Lib.hid hb
  have hzl := hv.len
  have htl := h.len
  have HZI : Hid (∀ k, k < L → 0 ≤ zs.getD k 0 ∧ zs.getD k 0 ≤ 255) := Lib.hid (fun k hk => hz _ (getD_mem (by omega)))
  obtain ⟨ms, HMS⟩ : ∃ ms, Hid (maxesL ts = ms) := ⟨_, Lib.hid rfl⟩
  have HML : Hid (ms.length = L) := Lib.hid (by rw [← HMS.out, maxesL_len, htl])
  have HGET : Hid (∀ k x y, k < L → Hid (tmAt ts k = (x, y)) → ms.getD k 0 = x) := Lib.hid (fun k x y hk hh => by rw [← HMS.out, maxesL_getD (by omega), hh.out])
  have HZL := Lib.hid hzl
  have hL : L ≤ 1048576 := h.2.1
  rw [HMS.out]
  have HZZ : Hid (∀ z ∈ zs, In64 z) := Lib.hid hv.2.2
  clear h hb hz htl hzl HMS
  go_enter Tryz.func96, Tryz.ntmps96
  go_wp2
  go_loopw [9] (fun i wr => ∃ k : Nat, k ≤ L ∧ i = .int .i64 (k : Int) ∧ Own wr B av L cv (List.replicate k 0 ++ zs.drop k) ∧ Span B M w wr ∧ nextD ms zs = (List.replicate k 0 ++ (nextD (ms.drop k) (zs.drop k)).1, (nextD (ms.drop k) (zs.drop k)).2)) (fun i _ => L - (intOf i).toNat)
  case atStart => exact ⟨0, Nat.zero_le _, rfl, hv, Span.refl _ _ _, rfl⟩
  case round =>
    obtain ⟨k, hk, rfl, ho, hs, hnx⟩ := hrel
    by_cases hlt : k < L
    · obtain ⟨bi, oi, x, y, rfl, hbi, htm, hi1, hi2, hc1, hc2⟩ := (HI.out.only hs (fun g hg => .inl (HBB.out g hg))).terms.at_ hlt
      have hx := HGET.out k x y hlt htm
      obtain ⟨gv, rfl, hcv, hfv, hgv⟩ := own_at (k := k) ho (by rw [ho.len]; exact hlt)
      rw [repl_get] at hcv
      obtain ⟨z1, z2⟩ := HZI.out k hlt
      have hst := nextD_step (ms := ms) (zs := zs) (i := k) (by rw [HML.out]; exact hlt) (by rw [HML.out, HZL.out])
      rw [hx] at hst
      have hset := repl_set (zs := zs) (i := k) (by rw [HZL.out]; exact hlt)
      obtain ⟨z, HZ⟩ : ∃ z, Hid (zs.getD k 0 = z) := ⟨_, rfl⟩
      rw [HZ.out] at hcv z1 z2 hst
      obtain ⟨wb, HWB⟩ : ∃ wb, Hid (wb = wr.alloc (.cells #[.int .i64 x, .int .i64 y] 51)) := ⟨_, rfl⟩
      have hgB : B ≤ gv ∧ gv < wr.heap.size := ho.block gv rfl
      have hgw : gv < M := hM gv rfl
      have hob : Own wb B (some ⟨gv, 0, none⟩) L cv (List.replicate k 0 ++ zs.drop k) := by rw [HWB.out]; exact ho.alloc _
      have hsb : Span B M w wb := by rw [HWB.out]; exact hs.trans (Span.of_below ((Below.refl _ _).alloc (Nat.le_refl _) _))
      have bz := own_cell hob.1 hlt
      rw [repl_get, HZ.out, HWB.out] at bz
      have HN1 : Hid (∀ q, Own ((wb.drewN q).setCell ⟨gv, k, none⟩ (.int .i64 (z + 1))) B (some ⟨gv, 0, none⟩) L cv (List.replicate k 0 ++ ((z + 1) :: zs.drop (k + 1)))) := Lib.hid (fun q => by
        have := own_put (hob.drewN q).1 k (z + 1)
        rw [hset] at this
        exact ⟨this, hL, fun y hq => by
          simp only [List.mem_append, List.mem_cons] at hq
          rcases hq with hq | rfl | hq
          · rw [List.eq_of_mem_replicate hq]; exact ⟨by decide, by decide⟩
          · exact ⟨by omega, by omega⟩
          · exact HZZ.out y (List.mem_of_mem_drop hq)⟩)
      have HN2 : Hid (∀ q, Own ((wb.drewN q).setCell ⟨gv, k, none⟩ (.int .i64 0)) B (some ⟨gv, 0, none⟩) L cv (List.replicate (k + 1) 0 ++ zs.drop (k + 1))) := Lib.hid (fun q => by
        have := own_put (hob.drewN q).1 k 0
        rw [hset, repl_more] at this
        exact ⟨this, hL, fun y hq => by
          simp only [List.mem_append] at hq
          rcases hq with hq | hq
          · rw [List.eq_of_mem_replicate hq]; exact ⟨by decide, by decide⟩
          · exact HZZ.out y (List.mem_of_mem_drop hq)⟩)
      have HS1 : Hid (∀ q v, Span B M w ((wb.drewN q).setCell ⟨gv, k, none⟩ v)) := Lib.hid (fun q v => (hsb.trans (Span.drewN _ q)).trans (Span.set _ _ hgB.1 hgw))
      rw [HWB.out] at HN1 HN2 HS1
      have HNX := Lib.hid hnx
      have HST := Lib.hid hst
      clear hx htm hset hob hsb ho hs hnx hst HZ
      go_wp2
      have bx := (Blk.new wr 51 [.int .i64 x, .int .i64 y]).cell (j := 0) rfl
      go_quiet (fail)
      go_wp2
      · have hzx : z < x := by assumption
        go_ret
        rw [HNX.out, HST.out, if_pos hzx]
        exact ⟨rfl, HN1.out _, HS1.out _ _⟩
      · have hzx : ¬ z < x := by omega
        go_roundw
        case rel =>
          refine ⟨k + 1, by omega, by go_num, HN2.out _, HS1.out _ _, ?_⟩
          rw [HNX.out, HST.out, if_neg hzx]
          simp only []
          rw [List.replicate_succ', List.append_assoc]
          rfl
        case measure => simp [intOf]; omega
    · obtain rfl : k = L := by omega
      have hdz : zs.drop k = [] := by rw [List.drop_eq_nil_iff, HZL.out]; exact Nat.le_refl _
      have hdm : ms.drop k = [] := by rw [List.drop_eq_nil_iff, HML.out]; exact Nat.le_refl _
      rw [hdz, hdm, show nextD ([] : List Int) [] = ([], false) from rfl] at hnx
      rw [hdz] at ho
      go_wp2
      rw [List.append_nil] at ho
      go_ret
      exact ⟨rfl, ho, hs⟩
/-- What yield is handed: the number, and the values' slice. -/
structure EIn where
  k : Nat
  a : Option Addr
  c : Nat
def encE (L : Nat) (x : EIn) : Array Value := #[.int .i64 (x.k : Int), .slice x.a L x.c]
/-- What holds of it: the values are those of the number. -/
def infoE (ms : List Int) (L lo hi : Nat) (x : EIn) (W : World) : Prop := Own W lo x.a L x.c (digs ms x.k) ∧ (∀ g, (Value.slice x.a L x.c).ownBlock = some g → g < hi) ∧ (x.k : Int) < prodL ms ∧ ∃ g, x.a = some ⟨g, 0, none⟩
theorem infoE_stay {ms : List Int} {L lo hi : Nat} {x : EIn} {A B : World} (h : infoE ms L lo hi x A) (hs : Stay lo hi A B) : infoE ms L lo hi x B := by
  refine ⟨⟨⟨h.1.1.1, ?_⟩, h.1.2⟩, h.2⟩
  rcases h.1.1.2 with hn | ⟨g, cap, cur, e, hb, hg, r⟩
  · exact .inl hn
  · exact .inr ⟨g, cap, cur, e, hb, (hs g hb (h.2.1 g (by rw [e]; rfl))).trans hg, r⟩
theorem OwnI.stay {lo hi B n c : Nat} {a : Option Addr} {ts : List Tm} {A C : World} (h : OwnI A B a n c ts) (hB : lo ≤ B) (hv : ∀ g, (Value.slice a n c).ownBlock = some g → g < hi) (hs : Stay lo hi A C) : OwnI C B a n c ts := by
  refine ⟨⟨h.1.1, ?_⟩, h.2⟩
  rcases h.1.2 with hn | ⟨g, cap, cur, e, hb, hg, r⟩
  · exact .inl hn
  · exact .inr ⟨g, cap, cur, e, hb, (hs g (by omega) (hv g (by rw [e]; rfl))).trans hg, r⟩
theorem Own.stay {lo hi B n c : Nat} {a : Option Addr} {zs : List Int} {A C : World} (h : Own A B a n c zs) (hB : lo ≤ B) (hv : ∀ g, (Value.slice a n c).ownBlock = some g → g < hi) (hs : Stay lo hi A C) : Own C B a n c zs := by
  refine ⟨⟨h.1.1, ?_⟩, h.2⟩
  rcases h.1.2 with hn | ⟨g, cap, cur, e, hb, hg, r⟩
  · exact .inl hn
  · exact .inr ⟨g, cap, cur, e, hb, (hs g (by omega) (hv g (by rw [e]; rfl))).trans hg, r⟩
set_option maxRecDepth 100000 in
set_option maxHeartbeats 2000000 in
theorem eachInput1_in (n : Nat) (hn : 1 ≤ n) (l Bs : Nat) (r : PRow) (p : Prg) (hlen : p.lows.length + p.secrets.length ≤ 6) (hmx : ∀ m ∈ maxesP p, 0 ≤ m ∧ m ≤ 255) (J Jx : Nat → List EIn → World → Prop) (W : World)
    (hBs : Blk W Bs 28 [.int .i64 r.width, slV r.lows, slV r.secrets, .int .i64 r.temps, slV r.arrays, slV r.body]) (hp : ProgAt W r p)
    (hJ : ∀ m s A B, J m s A → Span W.heap.size m A B → J m s B)
    (h0 : ∀ W', Below W.heap.size W W' → J W'.heap.size [] W')
    (hY : ∀ m pre x W1, J m pre W1 → infoE (maxesP p) (maxesP p).length W.heap.size m x W1 → YieldAt Fence.wide (n - 1) Tryz.prog l (encE (maxesP p).length x) W1 fun e W' =>
      (e = .returned (.bool true) ∧ J m (pre ++ [x]) W' ∧ Stay W.heap.size m W1 W' ∧ W1.heap.size ≤ W'.heap.size) ∨ (e = .returned (.bool false) ∧ Jx m (pre ++ [x]) W')) :
    CallsIn Fence.wide n Tryz.prog 94 #[.func (.yield l) #[] #[], .pointer (some ⟨Bs, 0, none⟩)] W fun e W' => (∃ v, e = .returned v) ∧
      ((∃ m xs, (xs.map EIn.k = List.range (prodL (maxesP p)).toNat) ∧ J m xs W') ∨ (∃ m pre, (∃ k, k ≤ (prodL (maxesP p)).toNat ∧ pre.map EIn.k = List.range k) ∧ Jx m pre W')) := by
  have HM : Hid (∀ w', Below W.heap.size W w' → Calls Tryz.prog 95 #[progV r] w' (MadeI w' (p.lows ++ p.secrets))) := Lib.hid (fun w' hw => inputsOf_any r p w' (hp.below hw) (by omega))
  have HX := Lib.hid hmx
  have HY := Lib.hid hY
  have HJ := Lib.hid hJ
  have H0 := Lib.hid h0
  have HTL : Hid ((p.lows ++ p.secrets).length = (maxesP p).length) := Lib.hid (by rw [maxesP_len]; simp)
  have HMS : Hid (maxesL (p.lows ++ p.secrets) = maxesP p) := Lib.hid rfl
  have hL6 : (maxesP p).length ≤ 6 := by rw [maxesP_len]; exact hlen
  clear hp hlen hmx hJ h0 hY
  obtain ⟨ts, HTS⟩ : ∃ ts, Hid (p.lows ++ p.secrets = ts) := ⟨_, Lib.hid rfl⟩
  rw [HTS.out] at HM HTL HMS
  obtain ⟨ms, HMM⟩ : ∃ ms, Hid (maxesP p = ms) := ⟨_, Lib.hid rfl⟩
  rw [HMM.out] at HX HY HTL HMS hL6 ⊢
  obtain ⟨L, HLE⟩ : ∃ L, Hid (ms.length = L) := ⟨_, rfl⟩
  rw [HLE.out] at HY HTL hL6
  clear HTS HMM
  have hpos := prodL_pos (fun m hm => (HX.out m hm).1)
  have hCb := prodL_small HX.out (by rw [HLE.out]; exact hL6)
  obtain ⟨C, HC⟩ : ∃ C : Nat, Hid (prodL ms = (C : Int)) := ⟨(prodL ms).toNat, Lib.hid (by omega)⟩
  have hCN : (prodL ms).toNat = C := by rw [HC.out]; rfl
  rw [hCN]
  rw [HC.out] at hpos hCb
  obtain ⟨wd, ⟨a1, n1, c1⟩, ⟨a2, n2, c2⟩, tp, ⟨a3, n3, c3⟩, ⟨a4, n4, c4⟩, rows⟩ := r
  simp only [progV, slV] at HM hBs
  have t0 := hBs.cell (j := 0) rfl
  have t1 := hBs.cell (j := 1) rfl
  have t2 := hBs.cell (j := 2) rfl
  have t3 := hBs.cell (j := 3) rfl
  have t4 := hBs.cell (j := 4) rfl
  have t5 := hBs.cell (j := 5) rfl
  refine callsIn_of_wp Tryz.func94 rfl trivial ?_ rfl
  simp only [Tryz.ntmps94, List.size_toArray, List.length_cons, List.length_nil, Nat.reduceAdd, Nat.reduceSub, Array.replicate_succ, Array.replicate_zero, List.push_toArray, List.append_toArray, List.nil_append, List.cons_append]
  gi_wp2_with fail
  refine ⟨trivial, (callsIn_wide.2 (HM.out _ (Below.refl _ _))).mono ?_⟩
  rintro e w2 ⟨ia, im, ic, rfl, hoi, hb2⟩
  have him : L = im := by rw [← hoi.len, HTL.out]
  subst him
  have hmk : ∀ w, (Instr.makeSlice 25 (.int .i64 (L : Int)) (.int .i64 (L : Int))).run Tryz.prog w = .ok (.slice (some ⟨w.heap.size, 0, none⟩) L L) (w.alloc (.cells (madeCells #[.int .i64 0] L) 2)) := fun w => make_row L (by omega) w
  clear t0 t1 t2 t3 t4 t5 hBs
  gi_wp2_with fail
  obtain ⟨w3, HW3⟩ : ∃ w3, Hid (w3 = w2.alloc (.cells (madeCells #[.int .i64 0] L) 2)) := ⟨_, rfl⟩
  have hb3 : Below w2.heap.size w2 w3 := by rw [HW3.out]; exact (Below.refl _ _).alloc (Nat.le_refl _) _
  have hov : Own w3 w2.heap.size (some ⟨w2.heap.size, 0, none⟩) L L (digs ms 0) := by rw [HW3.out, digs_zero (fun m hm => (HX.out m hm).1), HLE.out]; exact own_made w2 L (by omega)
  have hbw : Below W.heap.size W w3 := hb2.trans (hb3.mono hb2.size)
  have hvm : w2.heap.size < w3.heap.size := by rw [HW3.out]; simp
  have HIB := Lib.hid (fun g (hg : (Value.slice ia L ic).ownBlock = some g) => (hoi.block g hg).2)
  have hoi := hoi.below hb3
  have hws : W.heap.size ≤ w2.heap.size := hb2.size
  have hj := H0.out w3 hbw
  rw [← HW3.out]
  obtain ⟨bv, HBV⟩ : ∃ bv, Hid (w2.heap.size = bv) := ⟨_, rfl⟩
  rw [HBV.out] at hov hvm hws HIB ⊢
  obtain ⟨mm, HMM⟩ : ∃ mm, Hid (w3.heap.size = mm) := ⟨_, rfl⟩
  rw [HMM.out] at hj hvm
  clear HW3 hb2 hb3 hbw HBV HM H0 hmk
  have HBM : Hid (∀ g, (Value.slice (some ⟨bv, 0, none⟩) L L).ownBlock = some g → g < mm) := Lib.hid (fun g hg => by have hg' : some bv = some g := hg; injection hg' with hg'; omega)
  have HIM : Hid (∀ g, (Value.slice ia L ic).ownBlock = some g → g < mm) := Lib.hid (fun g hg => by have := HIB.out g hg; omega)
  gi_loopw [5] (fun i wr => ∃ (k : Nat) (pre : List EIn), k < C ∧ i = .int .i64 (k : Int) ∧ pre.map EIn.k = List.range k ∧ J mm pre wr ∧ Own wr bv (some ⟨bv, 0, none⟩) L L (digs ms (k : Int)) ∧ OwnI wr W.heap.size ia L ic ts) (fun i _ => C - (intOf i).toNat)
  case atStart => exact ⟨0, [], by omega, rfl, rfl, hj, hov, hoi⟩
  case round =>
    obtain ⟨k, pre, hk, rfl, hpre, hJs, ho, hi⟩ := hrel
    obtain ⟨fn, tmps, assign, body, hy, hR⟩ := HY.out mm pre ⟨k, some ⟨bv, 0, none⟩, L⟩ wr hJs ⟨ho.base hws, HBM.out, by rw [HC.out]; exact Int.ofNat_lt.2 hk, bv, rfl⟩
    simp only [encE] at hy
    have hpr : (pre ++ [(⟨k, some ⟨bv, 0, none⟩, L⟩ : EIn)]).map EIn.k = List.range (k + 1) := by rw [List.map_append, hpre, List.range_succ]; rfl
    have HPR := Lib.hid hpr
    have HO := Lib.hid ho
    have HI := Lib.hid hi
    clear hJs hpre hpr ho hi hj hov hoi
    gi_wp2
    refine hR.mono ?_
    rintro e W3 (⟨rfl, hJ3, hst, hsz⟩ | ⟨rfl, hJx3⟩)
    · have ho3 := HO.out.stay hws HBM.out hst
      have hi3 := HI.out.stay (Nat.le_refl _) HIM.out hst
      have HD := Lib.hid (nextD_digs (ms := ms) (fun m hm => (HX.out m hm).1) (n := (k : Int)) (by omega) (by rw [HC.out]; exact Int.ofNat_lt.2 hk))
      have HN := Lib.hid (countOn_any ia (some ⟨bv, 0, none⟩) L ic L ts (digs ms (k : Int)) W3 W.heap.size bv hi3 HIB.out ho3 (digs_in _ HX.out) mm HBM.out)
      rw [HMS.out] at HN
      have HI3 := Lib.hid hi3
      have HJ3 := Lib.hid hJ3
      clear ho3 hi3 hJ3 hst HO HI
      by_cases hlast : k + 1 < C
      · have hlt : (k : Int) + 1 < prodL ms := by rw [HC.out]; omega
        have e2 := HD.out.1
        rw [decide_eq_true hlt] at e2
        have e3 := HD.out.2 hlt
        rw [e2, e3] at HN
        clear e2 e3 HD hlt
        gi_wp2_with fail
        refine ⟨trivial, (callsIn_wide.2 HN.out).mono ?_⟩
        rintro e W4 ⟨rfl, ho4, hs4⟩
        have hj4 := HJ.out _ _ _ _ HJ3.out (hs4.wide hws (Nat.le_refl _))
        have hi4 := HI3.out.only hs4 (fun g hg => .inl (HIB.out g hg))
        clear HN HJ3 HI3 hs4
        gi_wp2
        go_roundw
        case rel => exact ⟨k + 1, _, hlast, by go_num, HPR.out, hj4, ho4, hi4⟩
        case measure => simp [intOf]; omega
      · have hlt : ¬ (k : Int) + 1 < prodL ms := by rw [HC.out]; omega
        have e2 := HD.out.1
        rw [decide_eq_false hlt] at e2
        rw [e2] at HN
        clear e2 HD hlt
        have hkC : k + 1 = C := by omega
        gi_wp2_with fail
        refine ⟨trivial, (callsIn_wide.2 HN.out).mono ?_⟩
        rintro e W4 ⟨rfl, ho4, hs4⟩
        have hj4 := HJ.out _ _ _ _ HJ3.out (hs4.wide hws (Nat.le_refl _))
        clear HN HJ3 HI3 hs4 ho4
        gi_wp2
        go_end0
        exact ⟨⟨_, rfl⟩, .inl ⟨_, _, by rw [← hkC]; exact HPR.out, hj4⟩⟩
    · clear HO HI
      gi_wp2
      refine ⟨trivial, ?_⟩
      gi_wp2
      go_end0
      exact ⟨⟨_, rfl⟩, .inr ⟨_, _, ⟨k + 1, by omega, HPR.out⟩, hJx3⟩⟩
set_option maxHeartbeats 1000000 in
theorem eachInput_in (n : Nat) (wd tp : Int) (a1 a2 a3 a4 : Option Addr) (n1 n2 n3 n4 c1 c2 c3 c4 : Nat) (w : World) :
    CallsIn Fence.wide n Tryz.prog 58 #[.agg #[.int .i64 wd, .slice a1 n1 c1, .slice a2 n2 c2, .int .i64 tp, .slice a3 n3 c3, .slice a4 n4 c4]] w fun e w' => e = .returned (.func (.func 94) #[] #[.pointer (some ⟨w.heap.size, 0, none⟩)]) ∧ w' = w.alloc (.cells #[.int .i64 wd, .slice a1 n1 c1, .slice a2 n2 c2, .int .i64 tp, .slice a3 n3 c3, .slice a4 n4 c4] 28) := by
  refine callsIn_of_wp Tryz.func58 rfl trivial ?_ rfl
  simp only [Tryz.ntmps58, List.size_toArray, List.length_cons, List.length_nil, Nat.reduceAdd, Nat.reduceSub, Array.replicate_succ, Array.replicate_zero, List.push_toArray, List.append_toArray, List.nil_append, List.cons_append]
  gi_wp2
  go_ret
  exact ⟨rfl, rfl⟩
/-- All inputs of a right program, one by one. -/
theorem eachInput_stops (n : Nat) (hn : 1 ≤ n) (Bs : Nat) (r : PRow) (p : Prg) (hlen : p.lows.length + p.secrets.length ≤ 6) (hmx : ∀ m ∈ maxesP p, 0 ≤ m ∧ m ≤ 255) (w : World)
    (hBs : Blk w Bs 28 [.int .i64 r.width, slV r.lows, slV r.secrets, .int .i64 r.temps, slV r.arrays, slV r.body]) (hp : ProgAt w r p) :
    SeqOwns Tryz.prog n 94 #[.pointer (some ⟨Bs, 0, none⟩)] (encE (maxesP p).length) (fun lo hi x W => infoE (maxesP p) (maxesP p).length lo hi x W) (fun xs => xs.map EIn.k = List.range (prodL (maxesP p)).toNat) (fun pre => ∃ k, k ≤ (prodL (maxesP p)).toNat ∧ pre.map EIn.k = List.range k) w := fun l J Jx W hW hJ _ h0 hY =>
  eachInput1_in n hn l Bs r p hlen hmx J Jx W (hBs.below hW hBs.lt) (hp.below hW) hJ h0 hY
end Go.Proofs.YtflojbjeloilaaaGreat
/- The contract of slices.Clone at numbers, and of the model's l7At. -/
namespace Go.Proofs.YtflojbjeloilaaaGreat
open Go.RowKit

set_option maxHeartbeats 400000 in
theorem cloneInts_any (a : Option Addr) (n c : Nat) (zs : List Int) (w : World) (h : Ints w a n zs) :
    Calls Tryz.prog 92 #[.slice a n c] w (MadeInts w zs) := by
  have qT : ∀ (w : World) (a : Option Addr) (n c n' c' : Nat), (binOp .eql 25 (.slice a n c) (.slice none n' c')).run Tryz.prog w = .ok (.bool a.isNone) w := fun w a n c n' c' => Lib.run_eql_slice_nil w _ _ a n c n' c' Tryz.underlying25
  have hn := h.2.1
  cases a with
  | none =>
    have hn0 : n = 0 := by
      rcases Nat.eq_zero_or_pos n with h0 | h0
      · exact h0
      · obtain ⟨b, o, e, _⟩ := h.2.2.2 h0
        cases e
    subst hn0
    have hvs : zs = [] := List.eq_nil_of_length_eq_zero h.1
    subst hvs
    go_enter Tryz.func92, Tryz.ntmps92
    go_wp2
    go_ret
    exact ⟨none, 0, 0, rfl, own_nil _ _, Below.refl _ _⟩
  | some ad =>
    have hb : Below w.heap.size w (w.alloc (.cells #[] 2)) := (Below.refl _ _).alloc (Nat.le_refl _) _
    have HI := Lib.hid (h.below hb)
    have HE := Lib.hid (own_empty w w.heap.size (Nat.le_refl _))
    have HB := Lib.hid hb
    clear h hb
    go_enter Tryz.func92, Tryz.ntmps92
    go_wp2_with (at_builtin; refine wpList_concat _ rfl _ _ rfl w.heap.size _ 0 0 [] rfl HE.out _ _ _ zs rfl HI.out (by omega) (by simp) ?_)
    intro a1 c1 w1 hown hgr
    have hbw := below_push HB.out HE.out (by simp) hgr
    have hown : Own w1 w.heap.size a1 n c1 zs := by simpa using hown
    go_wp2
    go_ret
    exact ⟨a1, n, c1, by simp, hown, hbw⟩
theorem digs_drop {ms : List Int} {k : Nat} {x : Int} (hk : k < ms.length) (hx : Hid (x = ms.getD k 0)) (Q : Int) : digs (ms.drop k) Q = Q % (x + 1) :: digs (ms.drop (k + 1)) (Q / (x + 1)) := by
  have e : ms[k] = x := by rw [hx.out]; simp [List.getD_eq_getElem?_getD, List.getElem?_eq_getElem hk]
  rw [List.drop_eq_getElem_cons hk, digs, e]
set_option maxHeartbeats 1600000 in
theorem l7At_any (a : Option Addr) (n c : Nat) (ms : List Int) (N : Int) (w : World) (h : Ints w a n ms) (hm : ∀ m ∈ ms, 0 ≤ m ∧ m ≤ 255) (h0 : 0 ≤ N) (h1 : N ≤ 281474976710656) (hn : n ≤ 6) :
    Calls Tryz.prog 84 #[.slice a n c, .int .i64 N] w fun e w' => ∃ g c', e = .returned (.slice (some ⟨g, 0, none⟩) n c') ∧ Own w' w.heap.size (some ⟨g, 0, none⟩) n c' (digs ms N) ∧ Below w.heap.size w w' := by
  have HL := Lib.hid h.1
  have HM := Lib.hid hm
  have HI := Lib.hid h
  clear hm h
  go_enter Tryz.func84, Tryz.ntmps84
  go_wp2_with fail
  go_loopw [1, 5, 6] (fun q v i wr => ∃ (k : Nat) (Q : Int) (a1 : Option Addr) (c1 : Nat) (acc : List Int), k ≤ n ∧ i = .int .i64 (k : Int) ∧ q = .int .i64 Q ∧ v = .slice a1 k c1 ∧ (∃ g, a1 = some ⟨g, 0, none⟩) ∧ digs ms N = acc ++ digs (ms.drop k) Q ∧ 0 ≤ Q ∧ Q ≤ 281474976710656 ∧ Own wr w.heap.size a1 k c1 acc ∧ Below w.heap.size w wr) (fun _ _ i _ => n - (intOf i).toNat)
  case atStart => exact ⟨0, N, _, _, [], by omega, rfl, rfl, rfl, ⟨_, rfl⟩, rfl, h0, h1, own_empty w _ (Nat.le_refl _), (Below.refl _ _).alloc (Nat.le_refl _) _⟩
  case round =>
    obtain ⟨k, Q, a1, c1, acc, hk, rfl, rfl, rfl, hg1, hd, q0, q1, hown, hbel⟩ := hrel
    have hbs := hbel.size
    by_cases hlt : k < n
    · obtain ⟨b, o, z, rfl, hb, hz, hin, hc⟩ := (HI.out.below hbel).at_ hlt
      have hzm := HM.out z (by rw [hz.out]; exact getD_mem (by rw [HL.out]; exact hlt))
      rw [digs_drop (by rw [HL.out]; exact hlt) hz] at hd
      have HD := Lib.hid hd
      have r0 := Int.emod_nonneg Q (show z + 1 ≠ 0 by omega)
      have r1 := Int.emod_lt_of_pos Q (show 0 < z + 1 by omega)
      have d0 := Int.ediv_nonneg q0 (show 0 ≤ z + 1 by omega)
      have d1 := Int.ediv_le_self (z + 1) q0
      have hq : In64 (Q % (z + 1)) := ⟨by omega, by omega⟩
      clear hd
      go_wp2_with (at_builtin; refine wpList_push _ rfl _ _ rfl w.heap.size _ _ _ acc rfl (hown.alloc _) wr.heap.size (Q % (z + 1)) rfl (by simp) hq (by omega) (by simp; omega) ?_)
      intro a8 c8 w8 hown8 hg8
      have hb8 := below_push (hbel.alloc hbs _) (hown.alloc _) (by simp; omega) hg8
      obtain ⟨b', o', z', e', hb', hz', hin', hc'⟩ := (HI.out.below hb8).at_ hlt
      injection e' with e'
      injection e' with e1 e2
      subst e1 e2
      obtain rfl : z' = z := by rw [hz'.out, hz.out]
      have HG8 : Hid (∃ g, a8 = some ⟨g, 0, none⟩) := Lib.hid (by obtain ⟨gv, e, _⟩ := own_at (k := k) hown8 (by rw [hown8.len]; omega); exact ⟨gv, e⟩)
      clear hg1 hown hg8 hbel hc hb hin hq r0 r1
      go_wp2_with fail
      go_roundw
      case rel => exact ⟨k + 1, Q / (z' + 1), a8, c8, acc ++ [Q % (z' + 1)], by omega, by go_num, rfl, rfl, HG8.out, by rw [HD.out, List.append_assoc]; rfl, d0, by omega, hown8, hb8⟩
      case measure => simp [intOf]; omega
    · obtain rfl : n = k := by omega
      rw [show ms.drop n = [] by rw [List.drop_eq_nil_iff, HL.out]; exact Nat.le_refl _, digs, List.append_nil] at hd
      obtain ⟨g1, rfl⟩ := hg1
      go_wp2
      go_ret
      rw [hd]
      exact ⟨_, _, rfl, hown, hbel⟩
end Go.Proofs.YtflojbjeloilaaaGreat
/- The contracts of the program's InputsIn and BitsIn. -/
namespace Go.Proofs.YtflojbjeloilaaaGreat
open Go.RowKit

end Go.Proofs.YtflojbjeloilaaaGreat
