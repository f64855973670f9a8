/- The contracts of the model's draws of expressions, right and wrong ones. -/
import Derived.Test.YtjfdmdemgnponaaDrawTerm
namespace Go.Proofs.Ytjfdmdemgnponaa
open Go.RowKit

theorem l1Min_any (x y : Int) (w : World) : Calls Try.prog 61 #[.int .i64 x, .int .i64 y] w fun e w' => e = .returned (.int .i64 (min x y)) ∧ w = w' := by
  by_cases h : x < y
  · have HM : Hid (min x y = x) := by show _ = _; omega
    go_enter Try.func61, Try.ntmps61
    go_wp2
    go_ret
    exact ⟨ret_int HM.out.symm, rfl⟩
  · have HM : Hid (min x y = y) := by show _ = _; omega
    go_enter Try.func61, Try.ntmps61
    go_wp2
    go_ret
    exact ⟨ret_int HM.out.symm, rfl⟩

set_option maxHeartbeats 800000 in
theorem l1Num_any (p : Nat) (w : World) (most : Int) (hcur : Cur w p) (h0 : 0 ≤ most) (h1 : most ≤ 1000000) : Calls Try.prog 53 #[.pointer (some ⟨p, 0, none⟩), .int .i64 most] w (DrewNum w p (-9223372036854775808) 9223372036854775807) := by
  have hp := hcur.lt
  go_enter Try.func53, Try.ntmps53
  go_wp2_with fail
  refine (l1Once_any p _ 10 hcur (by omega) (by omega)).mono ?_
  rintro e w1 ⟨b, rfl, hc1, hg1⟩
  cases b with
  | true =>
    go_wp2_with fail
    refine (l1Odd_any p _ hc1).mono ?_
    rintro e w2 ⟨x, hx0, hx1, rfl, hc2, hg2⟩
    have hgt2 := only_trans hg1 hg2
    have hp2 := hc2.lt
    clear hg1 hg2 hc1
    go_wp2_with fail
    refine (l1Below_any p _ 4 (hc2.alloc _) (by omega) (by omega)).mono ?_
    rintro e w3 ⟨k, hk0, hk1, rfl, hc3, hg3⟩
    obtain ⟨k, rfl⟩ := Int.eq_ofNat_of_zero_le hk0
    obtain ⟨z, hz, _, hcell⟩ := lit_at (zs := [-1, most, most + 1, x]) (k := k)
      (by intro z hz; simp at hz; unfold In64; omega) (by simp) hp2 hg3 (by simp; omega)
    have hgt := only_trans (only_alloc hgt2 _) hg3
    clear hg3 hgt2
    go_wp2_with fail
    go_ret
    exact ⟨z, hz.1, hz.2, rfl, hc3, hgt⟩
  | false =>
    go_wp2_with fail
    refine (l1Once_any p _ 2 hc1 (by omega) (by omega)).mono ?_
    rintro e w2 ⟨b, rfl, hc2, hg2⟩
    have hgt2 := only_trans hg1 hg2
    clear hg1 hg2 hc1
    cases b with
    | true =>
      go_wp2_with fail
      refine (l1Min_any _ _ _).mono ?_
      rintro e w3 ⟨rfl, rfl⟩
      have hm0 : 0 ≤ min most 4 := by omega
      have hm1 : min most 4 ≤ 4 := by omega
      generalize min most 4 = m at *
      go_wp2_with fail
      refine (l1Below_any p _ _ hc2 (by omega) (by omega)).mono ?_
      rintro e w3 ⟨x, hx0, hx1, rfl, hc3, hg3⟩
      go_wp2_with fail
      go_ret
      exact ⟨x, by omega, by omega, rfl, hc3, only_trans hgt2 hg3⟩
    | false =>
      go_wp2_with fail
      refine (l1Below_any p _ _ hc2 (by omega) (by omega)).mono ?_
      rintro e w3 ⟨x, hx0, hx1, rfl, hc3, hg3⟩
      go_wp2_with fail
      go_ret
      exact ⟨x, by omega, by omega, rfl, hc3, only_trans hgt2 hg3⟩

/-- A list of Terms was drawn, right or wrong; the cursor has gone on, all else stands. -/
def DrewTerms (w : World) (p : Nat) (e : Ending) (w' : World) : Prop :=
  ∃ a n c ts, e = .returned (.slice a n c) ∧ n ≤ 3001 ∧ Terms w' a n ts ∧ Cur w' p ∧ w.grownBy w' (some p)
/-- Terms read from a block that is not the cursor's. -/
theorem terms_cur {b c : World} {p n : Nat} {v : Option Addr} {ts : List Tm} (h : Terms b v n ts) (hne : ∀ g o, v = some ⟨g, o, none⟩ → g ≠ p) (hg : b.grownBy c (some p)) : Terms c v n ts := by
  obtain ⟨h1, h2, h3, h4⟩ := h
  refine ⟨h1, h2, h3, fun hp => ?_⟩
  obtain ⟨g, o, rfl, hgl, hcc⟩ := h4 hp
  have hn := hne g o rfl
  exact ⟨g, o, rfl, Nat.lt_of_lt_of_le hgl hg.size, fun i hi => ⟨hg.cell (hcc i hi).1 (fun e => hn (by injection e)), hg.cell (hcc i hi).2 (fun e => hn (by injection e))⟩⟩
def lenV : Value → Nat
  | .slice _ n _ => n
  | _ => 0
theorem notp_own {w w0 : World} {p : Nat} {v : Option Addr} {n c : Nat} {ts : List Tm} (h : OwnT w w0.heap.size v n c ts) (hp : p < w0.heap.size) : Hid (∀ g o, v = some ⟨g, o, none⟩ → g ≠ p) := fun g o e => by
  subst e
  have := (h.block g (by rcases h.1.2 with ⟨e0, _⟩ | ⟨g', cap, cur, e0, _⟩; · cases e0
                         · injection e0 with e1 _ _; injection e1 with e1; injection e1 with e1 e2; subst e1 e2; rfl)).1
  omega
theorem terms_nil (w : World) (a : Option Addr) : Terms w a 0 [] := ⟨rfl, by omega, fun t ht => by simp at ht, fun h => absurd h (by omega)⟩
theorem ownT_put {w : World} {B g n c : Nat} {ts : List Tm} {k : Nat} (h : OwnT w B (some ⟨g, 0, none⟩) n c ts) (hk : k < n) (x : Int) (hx : In64 x) : OwnT (w.setCell ⟨g, k * 2, none⟩ (.int .i64 x)) B (some ⟨g, 0, none⟩) n c (ts.set k (x, (tmAt ts k).2)) := by
  have hl := h.len
  refine ⟨?_, h.2.1, fun t ht => ?_⟩
  · have h1 := (h.1.stored (k * 2) (.int .i64 x)).1
    have e : flatV (ts.set k (x, (tmAt ts k).2)) = (flatV ts).set (k * 2) (.int .i64 x) := by
      rw [flatV_set ts k _ (by omega)]
      have h2 := (flatV_at ts k (by omega)).2
      apply List.ext_getElem?
      intro i
      rw [List.getElem?_set]
      by_cases hi : k * 2 + 1 = i
      · subst hi
        rw [if_pos rfl, if_pos (by rw [List.length_set, flatV_len]; omega), List.getElem?_set, if_neg (by omega), h2]
      · rw [if_neg hi]
    rw [e]; exact h1
  · rcases List.mem_or_eq_of_mem_set ht with h' | h'
    · exact h.2.2 t h'
    · subst h'; exact ⟨hx, (h.2.2 _ (tmAt_mem (by omega))).2⟩
theorem ownT_put2 {w : World} {B g n c : Nat} {ts : List Tm} {k : Nat} (h : OwnT w B (some ⟨g, 0, none⟩) n c ts) (hk : k < n) (x : Int) (hx : In64 x) : OwnT (w.setCell ⟨g, k * 2 + 1, none⟩ (.int .i64 x)) B (some ⟨g, 0, none⟩) n c (ts.set k ((tmAt ts k).1, x)) := by
  have hl := h.len
  refine ⟨?_, h.2.1, fun t ht => ?_⟩
  · have h1 := (h.1.stored (k * 2 + 1) (.int .i64 x)).1
    have e : flatV (ts.set k ((tmAt ts k).1, x)) = (flatV ts).set (k * 2 + 1) (.int .i64 x) := by
      rw [flatV_set ts k _ (by omega)]
      have h2 := (flatV_at ts k (by omega)).1
      congr 1
      apply List.ext_getElem?
      intro i
      rw [List.getElem?_set]
      by_cases hi : k * 2 = i
      · subst hi
        rw [if_pos rfl, if_pos (by rw [flatV_len]; omega), h2]
      · rw [if_neg hi]
    rw [e]; exact h1
  · rcases List.mem_or_eq_of_mem_set ht with h' | h'
    · exact h.2.2 t h'
    · subst h'; exact ⟨(h.2.2 _ (tmAt_mem (by omega))).1, hx⟩

set_option maxRecDepth 100000 in
set_option maxHeartbeats 3200000 in
theorem l2DrawAny_any (p : Nat) (w : World) (hcur : Cur w p) : Calls Try.prog 36 #[.pointer (some ⟨p, 0, none⟩)] w (DrewTerms w p) := by
  have hp := hcur.lt
  go_enter Try.func36, Try.ntmps36
  go_wp2_with fail
  refine (l1Below_any p _ 4 hcur (by omega) (by omega)).mono ?_
  rintro e w1 ⟨x, hx0, hx1, rfl, hc1, hg1⟩
  obtain ⟨k, rfl⟩ := Int.eq_ofNat_of_zero_le hx0
  have hs1 := hg1.size
  go_wp2_with fail
  rw [show (1 + (k : Int)) = ((1 + k : Nat) : Int) by omega]
  refine (l2Draw_any p _ 4 2 9 (1 + k) true hc1 (by omega) (by omega) (by omega) (by omega) (by omega) (by omega) (by omega)).mono ?_
  rintro e w2 ⟨a, n, c, ts, rfl, hn0, hn1, hown, hc2, hg2⟩
  have hn2 : n ≤ 100000 := Nat.le_trans hn1 (longest_le (1 + k) (by omega))
  have hn3 : n ≤ 121 := by
    refine Nat.le_trans hn1 ?_
    have : ∀ j : Fin 5, longest j ≤ 121 := by decide
    exact this ⟨1 + k, by omega⟩
  obtain ⟨g, rfl, hgb, hglt⟩ := ownT_some hown hn0
  have hgt2 := only_trans hg1 hg2
  have hown1 := hown.base hs1
  clear hg1 hg2 hc1 hown
  go_wp2_with fail
  refine (l1Once_any p _ 6 hc2 (by omega) (by omega)).mono ?_
  rintro e w3 ⟨b, rfl, hc3, hg3⟩
  have hgt3 := only_trans hgt2 hg3
  have hown3 := ownT_cur hown1 hp hg3
  have hs3 : w.heap.size ≤ w3.heap.size := hgt3.size
  clear hc2 hgt2 hg3 hown1
  go_upto_if 11 with fail
  go_cut [3] (fun s wx => ∃ (a : Option Addr) (n c : Nat) (ts : List Tm), s = .slice a n c ∧ n ≤ 3001 ∧ Terms wx a n ts ∧ Hid (∀ g o, a = some ⟨g, o, none⟩ → g ≠ p) ∧ Cur wx p ∧ w.grownBy wx (some p))
  case first =>
    cases b with
    | false =>
      go_wp2_with fail
      go_meet
      exact ⟨_, n, c, ts, rfl, by omega, hown3.terms, notp_own hown3 hp, hc3, hgt3⟩
    | true =>
      go_wp2_with fail
      refine (l1Below_any p _ n hc3 (by omega) (by omega)).mono ?_
      rintro e w4 ⟨i, hi0, hi1, rfl, hc4, hg4⟩
      obtain ⟨i, rfl⟩ := Int.eq_ofNat_of_zero_le hi0
      have hgt4 := only_trans hgt3 hg4
      have hown4 := ownT_cur hown3 hp hg4
      clear hc3 hgt3 hg4 hown3
      go_wp2_with fail
      refine (l1Below_any p _ 4 hc4 (by omega) (by omega)).mono ?_
      rintro e w5 ⟨q, hq0, hq1, rfl, hc5, hg5⟩
      have hgt5 := only_trans hgt4 hg5
      have hown5 := ownT_cur hown4 hp hg5
      have hs5 : w.heap.size ≤ w5.heap.size := hgt5.size
      clear hc4 hgt4 hg5 hown4
      have hq : q = 0 ∨ q = 1 ∨ q = 2 ∨ q = 3 := by omega
      clear hq0 hq1
      rcases hq with rfl | rfl | rfl | rfl
      · go_wp2_with fail
        refine (l1From_any p _ (-1) 18 hc5 (by omega) (by omega) (by omega)).mono ?_
        rintro e w6 ⟨z, hz0, hz1, rfl, hc6, hg6⟩
        have hgt6 := only_trans hgt5 hg6
        have hown6 := ownT_cur hown5 hp hg6
        obtain ⟨k0, k1⟩ := own_cell2 hown6.1 (k := i) (by omega)
        have kf := hown6.1.frozenAt (i * 2)
        have hput := (hown6.1.stored (i * 2) (.int .i64 z)).2
        have hown7 := ownT_put (k := i) hown6 (by omega) z ⟨by omega, by omega⟩
        have hc7 := cur_ownT hc6 hp hown6 hput
        have hgt7 := only_ownT hgt6 hown6 hput
        generalize (tmAt ts i).1 = t1 at k0
        clear hgt5 hg6 hown5 hc5 k1 hput hown6 hc6 hgt6
        go_wp2_with fail
        go_meet
        exact ⟨_, n, c, _, rfl, by omega, hown7.terms, notp_own hown7 hp, hc7, hgt7⟩
      · go_wp2_with fail
        refine (l1Num_any p _ 255 hc5 (by omega) (by omega)).mono ?_
        rintro e w6 ⟨z, hz0, hz1, rfl, hc6, hg6⟩
        have hgt6 := only_trans hgt5 hg6
        have hown6 := ownT_cur hown5 hp hg6
        obtain ⟨k0, k1⟩ := own_cell2 hown6.1 (k := i) (by omega)
        have kf := hown6.1.frozenAt (i * 2 + 1)
        have hput := (hown6.1.stored (i * 2 + 1) (.int .i64 z)).2
        have hown7 := ownT_put2 (k := i) hown6 (by omega) z ⟨hz0, hz1⟩
        have hc7 := cur_ownT hc6 hp hown6 hput
        have hgt7 := only_ownT hgt6 hown6 hput
        generalize (tmAt ts i).2 = t1 at k1
        clear hgt5 hg6 hown5 hc5 k0 hput hown6 hc6 hgt6 hz0 hz1
        go_wp2_with fail
        go_meet
        exact ⟨_, n, c, _, rfl, by omega, hown7.terms, notp_own hown7 hp, hc7, hgt7⟩
      · go_wp2_with fail
        refine (l1From_any p _ 0 17 hc5 (by omega) (by omega) (by omega)).mono ?_
        rintro e w6 ⟨z, hz0, hz1, rfl, hc6, hg6⟩
        have hgt6 := only_trans hgt5 hg6
        have hown6 := ownT_cur hown5 hp hg6
        have hs6 : w.heap.size ≤ w6.heap.size := hgt6.size
        clear hgt5 hg6 hown5 hc5
        go_wp2_with (at_builtin; refine wpList_pushT _ rfl _ _ rfl w.heap.size _ _ _ ts rfl (hown6.alloc _) w6.heap.size z 0 rfl (by simp) (by simp) (inTm_small (by omega) (by omega) (by omega) (by omega)) (by omega) (by simp; omega) ?_)
        intro a9 c9 w9 hown9 hg9
        have hc9 := cur_ownT (hc6.alloc _) hp (hown6.alloc _) hg9.1
        have hgt9 := only_ownT (only_alloc hgt6 _) (hown6.alloc _) hg9.1
        clear hown6 hg9 hc6 hgt6
        go_wp2_with fail
        go_meet
        exact ⟨_, n + 1, c9, _, rfl, by omega, hown9.terms, notp_own hown9 hp, hc9, hgt9⟩
      · have hcap := hown5.cap
        have hl5 := hown5.len
        by_cases hc1 : c = 1
        · subst hc1
          obtain rfl : n = 1 := by omega
          go_wp2_with fail
          go_meet
          exact ⟨_, _, _, [], rfl, by omega, terms_nil _ _, notp_own hown5 hp, hc5, hgt5⟩
        · have hpart : Terms w5 (some ⟨g, 2, none⟩) (n - 1) (ts.drop 1) := by
            have h1 := hown5.terms.part (p := ts.take 1) (t := ts.drop 1) (q := []) (by rw [List.append_nil, List.take_append_drop])
            have e1 : (ts.take 1).length = 1 := by rw [List.length_take]; omega
            rw [e1, List.length_drop, hl5] at h1
            exact h1
          clear hl5
          go_wp2_with fail
          go_meet
          exact ⟨_, n - 1, _, _, rfl, by omega, hpart, (fun g' o e => by injection e with e; injection e with e1 _; omega), hc5, hgt5⟩
  case rest =>
    obtain ⟨a4, n4, c4, ts4, rfl, hn4, hT4, hne4, hc4, hgt4⟩ := hcut
    clear hown3 hc3 hgt3 hs3
    go_wp2_with fail
    refine (l1Once_any p _ 60 hc4 (by omega) (by omega)).mono ?_
    rintro e w5 ⟨b, rfl, hc5, hg5⟩
    have hgt5 := only_trans hgt4 hg5
    cases b with
    | false =>
      have hT5 : Terms w5 a4 n4 ts4 := terms_cur hT4 hne4.out hg5
      go_wp2
      go_ret
      exact ⟨a4, n4, c4, ts4, rfl, hn4, hT5, hc5, hgt5⟩
    | true =>
      have hs5 : w.heap.size ≤ w5.heap.size := hgt5.size
      have hown5 := ownT_one w5 w.heap.size 0 0 (inTm_small (by omega) (by omega) (by omega) (by omega)) hs5
      have hc6 := hc5.alloc (.cells #[.int .i64 0, .int .i64 0] 31)
      have hgt6 := only_alloc hgt5 (.cells #[.int .i64 0, .int .i64 0] 31)
      clear hc4 hgt4 hT4 hg5
      go_wp2
      go_loopw [3] (fun ev wr => ∃ (a1 : Option Addr) (n1 c1 : Nat) (ts1 : List Tm), n1 ≤ 3001 ∧ ev = .slice a1 n1 c1 ∧ OwnT wr w.heap.size a1 n1 c1 ts1 ∧ Cur wr p ∧ w.grownBy wr (some p)) (fun ev _ => 3001 - lenV ev)
      case atStart => exact ⟨_, 1, 1, _, by omega, rfl, hown5, hc6, hgt6⟩
      case round =>
        clear hown5 hc6 hgt6 hc5 hgt5 hs5
        obtain ⟨a1, n1, c1, ts1, hn1, rfl, hown, hcr, hgr⟩ := hrel
        have hs1 : w.heap.size ≤ wr.heap.size := hgr.size
        go_wp2_with fail
        refine (l1Below_any p _ 2 hcr (by omega) (by omega)).mono ?_
        rintro e w6 ⟨x, hx0, hx1, rfl, hc6, hg6⟩
        have hgt6 := only_trans hgr hg6
        have hown6 := ownT_cur hown hp hg6
        have hs6 : w.heap.size ≤ w6.heap.size := hgt6.size
        clear hown hcr hgr hg6
        by_cases hlt : (n1 : Int) < 3000 + x
        · have hb1 : decide ((n1 : Int) < 3000 + x) = true := decide_eq_true hlt
          go_wp2_with (at_builtin; refine wpList_pushT _ rfl _ _ rfl w.heap.size _ _ _ ts1 rfl (hown6.alloc _) w6.heap.size 3 0 rfl (by simp) (by simp) (inTm_small (by omega) (by omega) (by omega) (by omega)) (by omega) (by simp; omega) ?_)
          intro a9 c9 w9 hown9 hg9
          have hc9 := cur_ownT (hc6.alloc _) hp (hown6.alloc _) hg9.1
          have hgt9 := only_ownT (only_alloc hgt6 _) (hown6.alloc _) hg9.1
          clear hown6 hg9 hc6 hgt6
          go_wp2
          go_roundw
          case rel => exact ⟨a9, n1 + 1, c9, _, by omega, rfl, hown9, hc9, hgt9⟩
          case measure => simp [lenV]; omega
        · have hb1 : decide ((n1 : Int) < 3000 + x) = false := decide_eq_false hlt
          go_wp2
          go_ret
          exact ⟨a1, n1, c1, ts1, rfl, hn1, hown6.terms, hc6, hgt6⟩

/-- An expression, right or wrong, was drawn out of the code. -/
def DrewExp (w : World) (e : Ending) (w' : World) : Prop := ∃ a n c ts, e = .returned (.slice a n c) ∧ n ≤ 3001 ∧ Terms w' a n ts ∧ Below w.heap.size w w'
theorem only_cur {a b c : World} {p : Nat} (h : Below a.heap.size a b) (hp : a.heap.size ≤ p) (k : b.grownBy c (some p)) : Below a.heap.size a c := h.grown k h.size (fun g e => by injection e with e; omega)
theorem drawPartsOf_any (a : Option Addr) (n c : Nat) (w : World) (h : CodeAt w w.heap.size a n) : Calls Try.prog 11 #[.slice a n c] w (DrewExp w) := by
  go_enter Try.func11, Try.ntmps11
  go_wp2_with fail
  refine (l1New_any _ _ _ _ h).mono ?_
  rintro e w1 ⟨p, rfl, hp, hc1, hb1⟩
  go_wp2_with fail
  refine (l2DrawAny_any p _ hc1).mono ?_
  rintro e w2 ⟨a2, n2, c2, ts2, rfl, hn2, hT2, hc2, hg2⟩
  have ht2 := only_cur hb1 hp hg2
  go_wp2_with fail
  go_ret
  exact ⟨a2, n2, c2, ts2, rfl, hn2, hT2, ht2⟩
theorem drawNamesIn_any (a : Option Addr) (n c : Nat) (w : World) (h : CodeAt w w.heap.size a n) : Calls Try.prog 18 #[.slice a n c] w (DrewExp w) := by
  go_enter Try.func18, Try.ntmps18
  go_wp2_with fail
  refine (l1New_any _ _ _ _ h).mono ?_
  rintro e w1 ⟨p, rfl, hp, hc1, hb1⟩
  go_wp2_with fail
  refine (l2DrawAny_any p _ hc1).mono ?_
  rintro e w2 ⟨a2, n2, c2, ts2, rfl, hn2, hT2, hc2, hg2⟩
  have ht2 := only_cur hb1 hp hg2
  go_wp2_with fail
  go_ret
  exact ⟨a2, n2, c2, ts2, rfl, hn2, hT2, ht2⟩
end Go.Proofs.Ytjfdmdemgnponaa
