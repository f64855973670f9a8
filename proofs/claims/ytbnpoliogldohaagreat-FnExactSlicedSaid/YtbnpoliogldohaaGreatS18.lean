/- The contract of the program's EndOf. -/
import Derived.Test.YtbnpoliogldohaaGreatS17
import Derived.Test.YtbnpoliogldohaaGreatS9
import Derived.WalkMore
import Derived.Deep.AppendLies
namespace Go.Proofs.YtbnpoliogldohaaGreat
open Go.RowKit

/-- A row of pairs that is cut short. -/
theorem own_cut2 {w : World} {B : Nat} {e : TypeId} {a : Option Addr} {r q c : Nat} {xs : List Value} (h : w.ownsRow B e 2 (.slice a (r + q) c) (r + q) xs) : w.ownsRow B e 2 (.slice a r c) r (xs.take (r * 2)) := by
  obtain ⟨h1, h2⟩ := h
  refine ⟨by simp; omega, ?_⟩
  rcases h2 with ⟨e1, h0⟩ | ⟨g, cap, cur, e1, hb, hg, hnc, hcm, hcs, ht⟩
  · have hr : r = 0 := by omega
    have hq : q = 0 := by omega
    subst hr hq
    exact .inl ⟨e1, rfl⟩
  · injection e1 with e1 e2 e3
    subst e1 e3
    refine .inr ⟨g, c, cur, rfl, hb, hg, by omega, hcm, hcs, ?_⟩
    rw [← ht, List.take_take, Nat.min_eq_left (by omega)]
theorem info_label : (Tryz.prog.info? 251).map (fun i => (i.zero, i.size, i.bytes)) = some (some (.agg #[.int .i64 0, .int .i64 0]), 2, 16) := by kernel_rfl
/-- The stack of labels: its top first in the list, last in the row. -/
def Labels (w : World) (B : Nat) (a : Option Addr) (m c : Nat) (L : List Tm) : Prop := w.ownsRow B 251 2 (.slice a m c) m (flatV L.reverse)
section
variable {w w' : World} {B : Nat} {a : Option Addr} {m q c : Nat} {L r : List Tm} {o s : Int}
theorem Labels.len (h : Labels w B a m c L) : L.length = m := by have := h.1; rw [flatV_len, List.length_reverse] at this; omega
theorem Labels.below (h : Labels w B a m c L) (hb : Below w.heap.size w w') : Labels w' B a m c L :=
  World.ownsRow.kept (row := none) h ⟨hb.os, hb.tape, hb.output, hb.size, fun k hk _ => hb.block k hk⟩ (by cases a <;> simp [Value.ownBlock])
theorem Labels.top (h : Labels w B a (q + 1) c L) : ∃ g o s r, a = some ⟨g, 0, none⟩ ∧ L = (o, s) :: r ∧ r.length = q ∧ B ≤ g ∧ g < w.heap.size ∧ q + 1 ≤ c ∧ w.cell? ⟨g, q * 2, none⟩ = some (.int .i64 o) ∧ w.cell? ⟨g, q * 2 + 1, none⟩ = some (.int .i64 s) ∧ w.frozen? ⟨g, q * 2 + 1, none⟩ = false := by
  have hl := h.len
  match L, hl with
  | (o, s) :: r, hl =>
    have hr : r.length = q := by simpa using hl
    have h' := h
    unfold Labels at h'
    rcases h'.2 with ⟨e, h0⟩ | ⟨g, cap, cur, e, hB, hh, hnc, _⟩
    · omega
    · injection e with e1 e2 e3
      subst e1 e3
      have hat := flatV_at ((o, s) :: r).reverse q (by simp; omega)
      have ht : tmAt ((o, s) :: r).reverse q = (o, s) := by
        rw [tmAt, List.reverse_cons, List.getD_eq_getElem?_getD, List.getElem?_append_right (by simp; omega)]
        simp [hr]
      rw [ht] at hat
      exact ⟨g, o, s, r, rfl, rfl, hr, hB, (h'.lt g rfl).2, hnc, by rw [h'.cellAt (q * 2) (by omega)]; exact hat.1, by rw [h'.cellAt (q * 2 + 1) (by omega)]; exact hat.2, h'.frozenAt (q * 2 + 1)⟩
theorem Labels.facts {g : Nat} (h : Labels w B (some ⟨g, 0, none⟩) (q + 1) c ((o, s) :: r)) : w.cell? ⟨g, q * 2, none⟩ = some (.int .i64 o) ∧ w.cell? ⟨g, q * 2 + 1, none⟩ = some (.int .i64 s) ∧ w.frozen? ⟨g, q * 2 + 1, none⟩ = false := by
  obtain ⟨g', o', s', r', e1, e2, _, _, _, _, h1, h2, h3⟩ := h.top
  injection e1 with e1
  injection e1 with e1
  injection e2 with e2 e4
  injection e2 with e2 e3
  subst e1 e2 e3
  exact ⟨h1, h2, h3⟩
theorem Labels.put {g : Nat} (h : Labels w B (some ⟨g, 0, none⟩) (q + 1) c ((o, s) :: r)) (z : Int) : Labels (w.setCell ⟨g, q * 2 + 1, none⟩ (.int .i64 z)) B (some ⟨g, 0, none⟩) (q + 1) c ((o, z) :: r) := by
  have hr : r.length = q := by have := h.len; simpa using this
  have := (World.ownsRow.stored h (q * 2 + 1) (.int .i64 z)).1
  unfold Labels
  have e : flatV ((o, z) :: r).reverse = (flatV ((o, s) :: r).reverse).set (q * 2 + 1) (.int .i64 z) := by
    rw [List.reverse_cons, List.reverse_cons, flatV_append, flatV_append, List.set_append_right _ _ (by rw [flatV_len]; simp; omega)]
    rw [flatV_len, List.length_reverse, hr, show q * 2 + 1 - q * 2 = 1 by omega]
    rfl
  rw [e]
  exact this
theorem Labels.pop {t : Tm} (h : Labels w B a (q + 1) c (t :: r)) : Labels w B a q c r := by
  have hr : r.length = q := by have := h.len; simpa using this
  have := own_cut2 h
  unfold Labels
  rwa [List.reverse_cons, flatV_append, List.take_append_of_le_length (by rw [flatV_len]; simp; omega), List.take_of_length_le (by rw [flatV_len]; simp; omega)] at this
theorem labels_nil (w : World) (B : Nat) : Labels w B none 0 0 [] := World.ownsRow_nil _ _ _ _
end

set_option maxRecDepth 20000 in
set_option maxHeartbeats 3200000 in
theorem implEndOf_any (a : Option Addr) (n c : Nat) (rs : List SRow) (ss : List Stm) (z : Int) (w : World) (h : Stmts w a n rs ss) :
    Calls Tryz.prog 177 #[.slice a n c, .int .i64 z] w fun e w' => e = .returned (.tuple #[.int .i64 (endB ss z).1, .int .i64 (endB ss z).2]) ∧ Below w.heap.size w w' := by
  have hbd := h.2.2.1
  have HL := Lib.hid h.2.1
  obtain ⟨P, HP⟩ : ∃ P, Hid (endB ss z = P) := ⟨_, rfl⟩
  rw [HP.out]
  by_cases h40 : n ≤ 40
  case neg =>
    have he : P = (-1, -1) := by rw [← HP.out, endB, if_neg (by have := HL.out; omega)]
    subst he
    have hd : decide ((n : Int) > 40) = true := by simp; omega
    go_enter Tryz.func177, Tryz.ntmps177
    go_wp2
    go_step3
    go_wp2
    rw [Exit.noGoto_ret]
    go_ret2
    exact ⟨rfl, Below.refl _ _⟩
  have hd : decide ((n : Int) > 40) = false := by simp; omega
  by_cases hz : 0 ≤ z ∧ z ≤ (n : Int) - 1
  case neg =>
    have hin : (decide (0 ≤ z) && decide (z ≤ (n : Int) - 1)) = false := by rw [← Bool.not_eq_true]; simpa using hz
    have he : P = (-1, -1) := by rw [← HP.out, endB, if_neg (by have := HL.out; omega)]
    subst he
    go_enter Tryz.func177, Tryz.ntmps177
    go_wp2
    go_step3
    go_wp2_with (go_at_call 88; refine (isWithin_any _ _ _ _).mono ?_; rintro e w' ⟨rfl, rfl⟩; rw [hin])
    rw [Exit.noGoto_ret]
    go_ret2
    exact ⟨rfl, Below.refl _ _⟩
  have hin : (decide (0 ≤ z) && decide (z ≤ (n : Int) - 1)) = true := by simpa using hz
  obtain ⟨i, rfl⟩ : ∃ i : Nat, z = (i : Int) := ⟨z.toNat, by omega⟩
  have hi : i < n := by omega
  have hl : i < ss.length := by rw [HL.out]; exact hi
  have hP : endOf ss i = P := by rw [← HP.out, endB, if_pos (by have := HL.out; omega), Int.toNat_natCast]
  clear HP hz
  obtain ⟨b, o, x, ea, hx, hix, hc⟩ := h.op hi
  subst ea
  by_cases ho : x = 2 ∨ x = 5 ∨ x = 8
  case neg =>
    have he : P = (-1, -1) := by rw [← hP, end_plain hl (by rw [hx.out]; omega) (by rw [hx.out]; omega) (by rw [hx.out]; omega)]
    subst he
    have hob : opensB x = false := by rw [← Bool.not_eq_true, opens_iff]; exact ho
    clear hP
    go_enter Tryz.func177, Tryz.ntmps177
    go_wp2
    go_step3
    go_wp2_with (first | (go_at_call 88; refine (isWithin_any _ _ _ _).mono ?_; rintro e w' ⟨rfl, rfl⟩; rw [hin]) | (go_at_call 176; refine (opensBlock_any _ _).mono ?_; rintro e w' ⟨rfl, rfl⟩; rw [hob]))
    rw [Exit.noGoto_ret]
    go_ret2
    exact ⟨rfl, Below.refl _ _⟩
  have hob : opensB x = true := (opens_iff _).2 ho
  have HM := Lib.hid ((mach_end hl (by rw [hx.out]; exact ho)).trans hP)
  have HO := Lib.hid (show opensB (opAt ss i) = true by rw [hx.out]; exact hob)
  clear hP
  go_enter Tryz.func177, Tryz.ntmps177
  go_wp2
  go_step3
  go_wp2_with (first | (go_at_call 88; refine (isWithin_any _ _ _ _).mono ?_; rintro e w' ⟨rfl, rfl⟩; rw [hin]) | (go_at_call 176; refine (opensBlock_any _ _).mono ?_; rintro e w' ⟨rfl, rfl⟩; rw [hob]))
  go_step3
  clear hob ho hx hix hc hin
  go_wp2
  go_loopw [7, 8] (fun st iv wr => ∃ (k : Nat) (sa : Option Addr) (m sc : Nat) (L : List Tm), i ≤ k ∧ k ≤ n ∧ m ≤ k ∧ iv = .int .i64 (k : Int) ∧ st = .slice sa m sc ∧ Labels wr w.heap.size sa m sc L ∧ Hid (mach ss L k = P) ∧ (m = 0 → k = i) ∧ Below w.heap.size w wr) (fun _ iv _ => n - (intOf iv).toNat)
  case atStart => exact ⟨i, none, 0, 0, [], Nat.le_refl _, by omega, by omega, rfl, rfl, labels_nil _ _, HM, fun _ => rfl, Below.refl _ _⟩
  case round =>
    clear HM
    obtain ⟨k, sa, m, sc, L, hik, hkn, hmk, rfl, rfl, hlab, HM, hm0, hbel⟩ := hrel
    by_cases hlt : k < n
    case neg =>
      have he : P = (-1, -1) := by rw [← HM.out, mach_past (by rw [HL.out]; omega)]
      subst he
      go_wp2
      rw [Exit.noGoto_ret]
      go_ret2
      exact ⟨rfl, hbel⟩
    have hl : k < ss.length := by rw [HL.out]; exact hlt
    obtain ⟨b2, o2, x, ea, hx, hix, hc⟩ := (h.below hbel).op hlt
    injection ea with ea
    injection ea with eb eo
    subst eb eo
    cases hob : opensB x with
    | true =>
      have HM2 := Lib.hid ((mach_open (st := L) hl (by rw [hx.out]; exact hob)).symm.trans HM.out)
      rw [hx.out] at HM2
      clear HM hm0
      go_wp2_with (first | (go_at_call 176; refine (opensBlock_any _ _).mono ?_; rintro e w' ⟨rfl, rfl⟩; rw [hob]) | (at_builtin; refine wpList_pushG _ rfl _ _ 249 251 (.agg #[.int .i64 0, .int .i64 0]) 2 16 rfl Tryz.underlying249 info_label rfl (by omega) w.heap.size _ _ _ _ rfl (hlab.below ((Below.refl _ _).alloc (Nat.le_refl _) _)) ⟨wr.heap.size, 0, none⟩ 1 1 [.int .i64 x, .int .i64 (-1)] rfl rfl (World.news_of_block (cs := #[.int .i64 x, .int .i64 (-1)]) (t := 251) (fr := (0, 0)) (heap_alloc_new wr _)) (by simp [Value.oneCell']) (by unfold maxLen; omega) (by omega) (by have := hbel.size; simp; omega) ?_))
      intro a1 c1 w1 hown hgr
      have hlab1 : Labels w1 w.heap.size a1 (m + 1) c1 ((x, -1) :: L) := by
        unfold Labels
        rw [List.reverse_cons, flatV_append]
        exact hown
      have hbel1 : Below w.heap.size w w1 := (hbel.alloc hbel.size _).grown hgr.1 (by have := hbel.size; simp; omega) (fun g' hg' => (World.ownsRow.lt hlab g' hg').1)
      clear hown hgr hlab hbel hc
      go_wp2
      go_roundw
      case rel => exact ⟨k + 1, a1, m + 1, c1, (x, -1) :: L, by omega, by omega, by omega, by go_num, rfl, hlab1, HM2, fun h => absurd h (by omega), hbel1⟩
      case measure => simp [intOf]; omega
    | false =>
      have hm1 : m ≠ 0 := fun h0 => by
        have := hm0 h0
        subst this
        have := HO.out
        rw [hx.out, hob] at this
        exact absurd this (by simp)
      obtain ⟨q, rfl⟩ : ∃ q, m = q + 1 := ⟨m - 1, by omega⟩
      obtain ⟨g, lo, ls, r, rfl, rfl, hr, hBg, hgl, hqc, hc1, hc2, hfz⟩ := hlab.top
      clear hm1 hm0
      cases hsb : secondB x with
      | true =>
        have hM2 := (mach_second (o := lo) (s := ls) (r := r) hl (by rw [hx.out]; exact hsb)).symm.trans HM.out
        rw [hx.out] at hM2
        obtain ⟨T, HT⟩ : ∃ T, Hid (takesB lo ls x = T) := ⟨_, rfl⟩
        rw [HT.out] at hM2
        have HM2 := Lib.hid hM2
        clear hM2 HM
        go_wp2_with (first | (go_at_call 176; refine (opensBlock_any _ _).mono ?_; rintro e w' ⟨rfl, rfl⟩; rw [hob]) | (go_at_call 175; refine (startsSecond_any _ _).mono ?_; rintro e w' ⟨rfl, rfl⟩; rw [hsb]))
        refine (takesLabel_any _ _ _ _).mono ?_
        rintro e w1 ⟨rfl, hb1⟩
        rw [HT.out]
        have hlab1 := hlab.below hb1
        have hbel1 : Below w.heap.size w w1 := hbel.trans (hb1.mono hbel.size)
        clear hlab hbel hc1 hc2 hfz hc
        obtain ⟨hc1, hc2, hfz⟩ := hlab1.facts
        cases T with
        | true =>
          rw [if_pos rfl] at HM2
          have hlab2 := hlab1.put (k : Int)
          have hbel2 : Below w.heap.size w (w1.setCell ⟨g, q * 2 + 1, none⟩ (.int .i64 (k : Int))) := hbel1.setCell hBg _
          clear hlab1 hbel1 hb1
          go_wp2
          go_roundw
          case rel => exact ⟨k + 1, _, q + 1, _, (lo, (k : Int)) :: r, by omega, by omega, by omega, by go_num, rfl, hlab2, HM2, fun h => absurd h (by omega), hbel2⟩
          case measure => simp [intOf]; omega
        | false =>
          have he : P = (-1, -1) := by rw [← HM2.out]; rfl
          subst he
          go_wp2
          rw [Exit.noGoto_ret]
          go_ret2
          exact ⟨rfl, hbel1⟩
      | false =>
        by_cases h4 : x = 4
        · subst h4
          have hM2 := (mach_stop (o := lo) (s := ls) (r := r) hl hx.out).symm.trans HM.out
          obtain ⟨T, HT⟩ : ∃ T, Hid (mayEndB lo ls = T) := ⟨_, rfl⟩
          rw [HT.out] at hM2
          have HM2 := Lib.hid hM2
          clear hM2 HM
          go_wp2_with (first | (go_at_call 176; refine (opensBlock_any _ _).mono ?_; rintro e w' ⟨rfl, rfl⟩; rw [hob]) | (go_at_call 175; refine (startsSecond_any _ _).mono ?_; rintro e w' ⟨rfl, rfl⟩; rw [hsb]))
          refine (mayEnd_any _ _ _).mono ?_
          rintro e w1 ⟨rfl, hb1⟩
          rw [HT.out]
          have hlab1 := hlab.below hb1
          have hbel1 : Below w.heap.size w w1 := hbel.trans (hb1.mono hbel.size)
          clear hlab hbel hc1 hc2 hfz hc hb1
          obtain ⟨hc1, hc2, hfz⟩ := hlab1.facts
          cases T with
          | true =>
            rw [if_pos rfl] at HM2
            by_cases hq : q = 0
            · subst hq
              have hr0 : r = [] := List.eq_nil_of_length_eq_zero hr
              subst hr0
              have he : P = (ls, (k : Int)) := HM2.out.symm
              subst he
              go_wp2
              rw [Exit.noGoto_ret]
              go_ret2
              exact ⟨rfl, hbel1⟩
            · have hre : r.isEmpty = false := by cases r with
                | nil => exact absurd hr (by simp; omega)
                | cons => rfl
              rw [hre, if_neg (by simp)] at HM2
              have hq0 : ((q : Int) == 0) = false := by simp; omega
              have hlab2 := hlab1.pop
              clear hlab1 hc1 hc2 hfz
              go_wp2
              go_roundw
              case rel => exact ⟨k + 1, _, q, _, r, by omega, by omega, by omega, by go_num, rfl, hlab2, HM2, fun h => absurd h (by omega), hbel1⟩
              case measure => simp [intOf]; omega
          | false =>
            have he : P = (-1, -1) := by rw [← HM2.out]; rfl
            subst he
            go_wp2
            rw [Exit.noGoto_ret]
            go_ret2
            exact ⟨rfl, hbel1⟩
        · have k4 : (x == 4) = false := by simpa using h4
          have HM2 := Lib.hid ((mach_plain (o := lo) (s := ls) (r := r) hl (by rw [hx.out]; exact hob) (by rw [hx.out]; exact hsb) (by rw [hx.out]; exact h4)).symm.trans HM.out)
          clear HM h4 hc1 hc2 hfz
          go_wp2_with (first | (go_at_call 176; refine (opensBlock_any _ _).mono ?_; rintro e w' ⟨rfl, rfl⟩; rw [hob]) | (go_at_call 175; refine (startsSecond_any _ _).mono ?_; rintro e w' ⟨rfl, rfl⟩; rw [hsb]))
          go_roundw
          case rel => exact ⟨k + 1, _, q + 1, _, (lo, ls) :: r, by omega, by omega, by omega, by go_num, rfl, hlab, HM2, fun h => absurd h (by omega), hbel⟩
          case measure => simp [intOf]; omega
end Go.Proofs.YtbnpoliogldohaaGreat
