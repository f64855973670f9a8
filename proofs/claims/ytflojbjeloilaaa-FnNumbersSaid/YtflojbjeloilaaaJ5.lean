/- Joined texts of this proof (DrawTerm, InputCopies), in build order. -/
import Derived.Test.YtflojbjeloilaaaJ2
import Derived.Test.YtflojbjeloilaaaJ4
import Derived.Test.YtflojbjeloilaaaJ3
import Derived.Deep.DeepCutAuto
/- The contracts of the model's draws of expressions. What is drawn is not told, only how long it is at most. -/
namespace Go.Proofs.Ytflojbjeloilaaa
open Go.RowKit

set_option maxHeartbeats 400000 in
theorem l1From_any (p : Nat) (w : World) (lo hi : Int) (hcur : Cur w p) (h0 : -1000000 ≤ lo) (h1 : lo ≤ hi) (h2 : hi ≤ 1000000) : Calls Try.prog 63 #[.pointer (some ⟨p, 0, none⟩), .int .i64 lo, .int .i64 hi] w (DrewNum w p lo hi) := by
  go_enter Try.func63, Try.ntmps63
  go_wp2_with fail
  refine (l1Below_any p _ _ hcur (by omega) (by omega)).mono ?_
  rintro e w1 ⟨x, hx0, hx1, rfl, hc1, hg1⟩
  go_wp2_with fail
  go_ret
  exact ⟨lo + x, by omega, by omega, rfl, hc1, hg1⟩

/-- Terms were drawn: of at least one and at most m; the cursor has gone on, all else stands. -/
def DrewT (w : World) (p m : Nat) (e : Ending) (w' : World) : Prop :=
  ∃ a n c ts, e = .returned (.slice a n c) ∧ 1 ≤ n ∧ n ≤ m ∧ OwnT w' w.heap.size a n c ts ∧ Cur w' p ∧ w.grownBy w' (some p)

/-- How long an expression of that depth is at most. -/
def longest : Nat → Nat
  | 0 => 1
  | d + 1 => 3 * longest d + 1
theorem longest_le (d : Nat) (h : d ≤ 10) : longest d ≤ 100000 := by
  have : ∀ d : Fin 11, longest d ≤ 100000 := by decide
  exact this ⟨d, by omega⟩
theorem longest_pos (d : Nat) : 1 ≤ longest d := by cases d <;> simp [longest]

theorem inTm_small {x y : Int} (h0 : -1000000 ≤ x) (h1 : x ≤ 1000000) (h2 : -1000000 ≤ y) (h3 : y ≤ 1000000) : InTm (x, y) := ⟨⟨by simp only []; omega, by simp only []; omega⟩, ⟨by simp only []; omega, by simp only []; omega⟩⟩
theorem ownT_one (w : World) (B : Nat) (x y : Int) (h : InTm (x, y)) (hB : B ≤ w.heap.size) : OwnT (w.alloc (.cells #[.int .i64 x, .int .i64 y] 80)) B (some ⟨w.heap.size, 0, none⟩) 1 1 [(x, y)] :=
  ⟨World.ownsRow_lit w #[.int .i64 x, .int .i64 y] 1 hB (by unfold maxLen; omega) rfl, by omega, fun t ht => by rw [List.mem_singleton] at ht; subst ht; exact h⟩
theorem cur_ownT {a b c : World} {p : Nat} {v : Option Addr} {n k : Nat} {ts : List Tm} (h : Cur b p) (hp : p < a.heap.size) (ho : OwnT b a.heap.size v n k ts) (hg : b.grownBy c (Value.slice v n k).ownBlock) : Cur c p :=
  h.other hg (fun g e => by have := (ho.block g e).1; omega)
theorem only_ownT {a b c : World} {p : Nat} {v : Option Addr} {n k : Nat} {ts : List Tm} (h : a.grownBy b (some p)) (ho : OwnT b a.heap.size v n k ts) (hg : b.grownBy c (Value.slice v n k).ownBlock) : a.grownBy c (some p) :=
  only_more h hg (fun g e => (ho.block g e).1)
theorem ownT_cur {a b c : World} {p : Nat} {v : Option Addr} {n k : Nat} {ts : List Tm} (ho : OwnT b a.heap.size v n k ts) (hp : p < a.heap.size) (hg : b.grownBy c (some p)) : OwnT c a.heap.size v n k ts :=
  ho.apart hg (fun g hgg e => by have := (ho.block g hgg).1; injection e with e; omega)
theorem ownT_some {w : World} {B : Nat} {a : Option Addr} {n c : Nat} {ts : List Tm} (h : OwnT w B a n c ts) (hp : 1 ≤ n) : ∃ g, a = some ⟨g, 0, none⟩ ∧ B ≤ g ∧ g < w.heap.size := by
  rcases h.1.2 with ⟨_, h0⟩ | ⟨g, cap, cur, e, hb, hg, _⟩
  · omega
  · exact ⟨g, by injection e, hb, (Array.getElem?_eq_some_iff.1 hg).1⟩
theorem ownT_empty (w : World) (B : Nat) (hB : B ≤ w.heap.size) : OwnT (w.alloc (.cells #[] 80)) B (some ⟨w.heap.size, 0, none⟩) 0 0 [] := ⟨own_emptyT w B hB, by omega, fun t ht => by simp at ht⟩

/-- 'append(out, xs...)' of Terms. -/
theorem wpList_concatT {ops : Array Oper} {rest : List Oper} {o : Oper} {ac : Act} {Q : Exit → Act → World → Prop} (w : World) (hgd : o.guard = none) (s x : Operand)
    (ho : o.op = .call { callee := .builtin .append, args := #[s, x], argTypes := #[44, 44] })
    (B : Nat) (a : Option Addr) (n c : Nat) (ts : List Tm) (hs : ac.eval s = .slice a n c) (hown : OwnT w B a n c ts)
    (b off m c2 : Nat) (us : List Tm) (hx : ac.eval x = .slice (some ⟨b, off, none⟩) m c2) (hi2 : Terms w (some ⟨b, off, none⟩) m us) (hn : n + m ≤ 1048576) (hB : B ≤ w.heap.size)
    (h : ∀ a1 c1 w', OwnT w' B a1 (n + m) c1 (ts ++ us) → GrowsTo w (.slice a n c) w' (.slice a1 (n + m) c1) → wpList Try.prog ops Q rest (ac.put o.dst (.slice a1 (n + m) c1)) w') : wpList Try.prog ops Q (o :: rest) ac w := by
  refine wpList_pushG w hgd s x 44 80 (.agg #[.int .i64 0, .int .i64 0]) 2 16 ho Try.underlying44 info_term rfl (by omega) B a n c (flatV ts) hs hown.1 ⟨b, off, none⟩ m c2 (flatV us) hx (by rw [flatV_len, hi2.1]) (terms_news hi2) (flatV_one us) (by unfold maxLen; omega) (by omega) hB ?_
  intro a1 c1 w' r1 r2
  refine h a1 c1 w' ⟨by rw [flatV_append]; exact r1, hn, fun t ht => ?_⟩ r2
  rcases List.mem_append.1 ht with ht | ht
  · exact hown.2.2 t ht
  · exact hi2.2.2.1 t ht

/-- What is said of l2Draw at a depth. -/
def DrawSaid (d : Nat) : Prop := d ≤ 10 → ∀ (p : Nat) (w : World) (vars arrays most : Int) (wide : Bool), Cur w p → 0 ≤ vars → vars ≤ 256 → 0 ≤ arrays → arrays ≤ 256 → 1 ≤ most → most ≤ 256 →
  Calls Try.prog 95 #[.pointer (some ⟨p, 0, none⟩), .int .i64 vars, .int .i64 arrays, .int .i64 most, .int .i64 (d : Int), .bool wide] w (DrewT w p (longest d))

set_option maxRecDepth 100000 in
set_option maxHeartbeats 1600000 in
theorem draw_zero : DrawSaid 0 := by
  intro _ p w vars arrays most wide hcur hv0 hv1 ha0 ha1 hm0 hm1
  have hp := hcur.lt
  have hd : decide (((0 : Nat) : Int) ≤ 0) = true := rfl
  by_cases hv : 0 < vars
  · go_enter Try.func95, Try.ntmps95
    go_wp2_with fail
    refine (l1Once_any p _ 3 hcur (by omega) (by omega)).mono ?_
    rintro e w1 ⟨b, rfl, hc1, hg1⟩
    cases b with
    | false =>
      go_wp2_with fail
      refine (l1Below_any p _ _ hc1 (by omega) (by omega)).mono ?_
      rintro e w2 ⟨x, hx0, hx1, rfl, hc2, hg2⟩
      have hgt := only_trans hg1 hg2
      have hs2 := hgt.size
      go_wp2
      go_ret
      exact ⟨_, 1, 1, [(1, x)], rfl, Nat.le_refl _, longest_pos _, ownT_one w2 _ 1 x (inTm_small (by omega) (by omega) (by omega) (by omega)) hs2, hc2.alloc _, only_alloc hgt _⟩
    | true =>
      go_wp2_with fail
      refine (l1Below_any p _ _ hc1 (by omega) (by omega)).mono ?_
      rintro e w2 ⟨x, hx0, hx1, rfl, hc2, hg2⟩
      have hgt := only_trans hg1 hg2
      have hs2 := hgt.size
      go_wp2
      go_ret
      exact ⟨_, 1, 1, [(0, x)], rfl, Nat.le_refl _, longest_pos _, ownT_one w2 _ 0 x (inTm_small (by omega) (by omega) (by omega) (by omega)) hs2, hc2.alloc _, only_alloc hgt _⟩
  · go_enter Try.func95, Try.ntmps95
    go_wp2_with fail
    refine (l1Below_any p _ most hcur hm0 (by omega)).mono ?_
    rintro e w2 ⟨x, hx0, hx1, rfl, hc2, hgt⟩
    have hs2 := hgt.size
    go_wp2
    go_ret
    exact ⟨_, 1, 1, [(0, x)], rfl, Nat.le_refl _, longest_pos _, ownT_one w2 _ 0 x (inTm_small (by omega) (by omega) (by omega) (by omega)) hs2, hc2.alloc _, only_alloc hgt _⟩

set_option maxRecDepth 100000 in
set_option maxHeartbeats 3200000 in
theorem draw_succ (d : Nat) (ih : Hid (DrawSaid d)) : DrawSaid (d + 1) := by
  intro hd10 p w vars arrays most wide hcur hv0 hv1 ha0 ha1 hm0 hm1
  have hp := hcur.lt
  have hd : decide ((d : Int) + 1 ≤ 0) = false := by rw [decide_eq_false_iff_not]; omega
  go_enter Try.func95, Try.ntmps95
  go_wp2_with fail
  refine (l1Once_any p _ 4 hcur (by omega) (by omega)).mono ?_
  rintro e w1 ⟨b, rfl, hc1, hg1⟩
  cases b with
  | true =>
    by_cases hv : 0 < vars
    · go_wp2_with fail
      refine (l1Once_any p _ 3 hc1 (by omega) (by omega)).mono ?_
      rintro e w2 ⟨b, rfl, hc2, hg2⟩
      cases b with
      | false =>
        go_wp2_with fail
        refine (l1Below_any p _ vars hc2 (by omega) (by omega)).mono ?_
        rintro e w3 ⟨x, hx0, hx1, rfl, hc3, hg3⟩
        have hgt := only_trans (only_trans hg1 hg2) hg3
        have hs2 := hgt.size
        go_wp2
        go_ret
        exact ⟨_, 1, 1, [(1, x)], rfl, Nat.le_refl _, longest_pos _, ownT_one w3 _ 1 x (inTm_small (by omega) (by omega) (by omega) (by omega)) hs2, hc3.alloc _, only_alloc hgt _⟩
      | true =>
        go_wp2_with fail
        refine (l1Below_any p _ most hc2 hm0 (by omega)).mono ?_
        rintro e w3 ⟨x, hx0, hx1, rfl, hc3, hg3⟩
        have hgt := only_trans (only_trans hg1 hg2) hg3
        have hs2 := hgt.size
        go_wp2
        go_ret
        exact ⟨_, 1, 1, [(0, x)], rfl, Nat.le_refl _, longest_pos _, ownT_one w3 _ 0 x (inTm_small (by omega) (by omega) (by omega) (by omega)) hs2, hc3.alloc _, only_alloc hgt _⟩
    · go_wp2_with fail
      refine (l1Below_any p _ most hc1 hm0 (by omega)).mono ?_
      rintro e w3 ⟨x, hx0, hx1, rfl, hc3, hg3⟩
      have hgt := only_trans hg1 hg3
      have hs2 := hgt.size
      go_wp2
      go_ret
      exact ⟨_, 1, 1, [(0, x)], rfl, Nat.le_refl _, longest_pos _, ownT_one w3 _ 0 x (inTm_small (by omega) (by omega) (by omega) (by omega)) hs2, hc3.alloc _, only_alloc hgt _⟩
  | false =>
    go_wp2_with fail
    refine (l1From_any p _ 3 16 hc1 (by omega) (by omega) (by omega)).mono ?_
    rintro e w2 ⟨x, hx0, hx1, rfl, hc2, hg2⟩
    have hgt2 := only_trans hg1 hg2
    clear hc1 hg1 hg2
    go_upto_region 6 with fail
    go_cut [47] (fun s wx => ∃ b : Bool, s = .bool b ∧ (b = true → 0 < arrays) ∧ Cur wx p ∧ w.grownBy wx (some p))
    case first =>
      by_cases ha : 0 < arrays
      · go_wp2_with fail
        refine (l1Once_any p _ 6 hc2 (by omega) (by omega)).mono ?_
        rintro e w3 ⟨b, rfl, hc3, hg3⟩
        have hgt3 := only_trans hgt2 hg3
        go_wp2_with fail
        go_meet
        exact ⟨b, rfl, fun _ => ha, hc3, hgt3⟩
      · go_wp2_with fail
        go_meet
        exact ⟨false, rfl, (fun h => Bool.noConfusion h), hc2, hgt2⟩
    case rest =>
      obtain ⟨b, rfl, hba, hc3, hgt3⟩ := hcut
      clear hc2 hgt2
      go_upto_if 47 with fail
      go_cut [13] (fun s wx => ∃ y : Int, s = .int .i64 y ∧ 2 ≤ y ∧ y ≤ 16 ∧ (y = 2 → 0 < arrays) ∧ Cur wx p ∧ w.grownBy wx (some p))
      case first =>
        cases b with
        | true =>
          go_wp2_with fail
          go_meet
          exact ⟨2, rfl, by omega, by omega, fun _ => hba trivial, hc3, hgt3⟩
        | false =>
          go_wp2_with fail
          go_meet
          exact ⟨x, rfl, by omega, by omega, fun _ => by omega, hc3, hgt3⟩
      case rest =>
        obtain ⟨y, rfl, hy0, hy1, hya, hc4, hgt4⟩ := hcut
        clear hc3 hgt3 hba
        go_upto_region 8 with fail
        go_cut [52] (fun s wx => ∃ b : Bool, s = .bool b ∧ Cur wx p ∧ w.grownBy wx (some p))
        case first =>
          cases wide with
          | true =>
            go_wp2_with fail
            refine (l1Once_any p _ 8 hc4 (by omega) (by omega)).mono ?_
            rintro e w5 ⟨b, rfl, hc5, hg5⟩
            have hgt5 := only_trans hgt4 hg5
            go_wp2_with fail
            go_meet
            exact ⟨b, rfl, hc5, hgt5⟩
          | false =>
            go_wp2_with fail
            go_meet
            exact ⟨false, rfl, hc4, hgt4⟩
        case rest =>
          obtain ⟨b2, rfl, hc5, hgt5⟩ := hcut
          clear hc4 hgt4
          go_upto_if 52 with fail
          go_cut [13] (fun s wx => ∃ z : Int, s = .int .i64 z ∧ 2 ≤ z ∧ z ≤ 17 ∧ (z = 2 → 0 < arrays) ∧ Cur wx p ∧ w.grownBy wx (some p))
          case first =>
            cases b2 with
            | true =>
              go_wp2_with fail
              go_meet
              exact ⟨17, rfl, by omega, by omega, fun h => by omega, hc5, hgt5⟩
            | false =>
              go_wp2_with fail
              go_meet
              exact ⟨y, rfl, by omega, by omega, hya, hc5, hgt5⟩
          case rest =>
            obtain ⟨op, rfl, ho0, ho1, hoa, hc6, hgt6⟩ := hcut
            clear hc5 hgt5 hya hy0 hy1
            obtain ⟨q, HQ⟩ : ∃ q : Nat, Hid (takesI op = (q : Int)) := ⟨(takesI op).toNat, by
              show _ = _
              have h1 := takesI_range op
              have h2 := takesI_neg op
              omega⟩
            have hq3 : q ≤ 3 := by have := HQ.out; have := takesI_range op; omega
            go_wp2_with fail
            refine (specTakes_any _ _).mono ?_
            rintro e w7 ⟨rfl, hb7⟩
            rw [HQ.out]
            have hc7 : Cur w7 p := (hc6.alloc _).below hb7
            have hgt7 : w.grownBy w7 (some p) := only_more (only_alloc hgt6 _) (only_below hb7 none) (fun g e => by cases e)
            have hown7 := (ownT_empty wc w.heap.size hgt6.size).below hb7
            have hlp := longest_pos d
            have hll := longest_le d (by omega)
            have HLG : Hid (longest (d + 1) = 3 * longest d + 1) := rfl
            obtain ⟨M, HM⟩ : ∃ M, Hid (longest d = M) := ⟨_, rfl⟩
            rw [HM.out] at hlp hll HLG
            clear hc6 hgt6 hb7
            go_wp2
            go_loopw [14, 15] (fun ov nv wr => ∃ (j n1 c1 : Nat) (a1 : Option Addr) (ts : List Tm), j ≤ q ∧ nv = .int .i64 j ∧ ov = .slice a1 n1 c1 ∧ n1 ≤ (3 - j) * M ∧ OwnT wr w.heap.size a1 n1 c1 ts ∧ Cur wr p ∧ w.grownBy wr (some p)) (fun _ nv _ => (intOf nv).toNat)
            case atStart => exact ⟨q, 0, 0, _, [], Nat.le_refl _, rfl, rfl, Nat.zero_le _, hown7, hc7, hgt7⟩
            case round =>
              clear hown7 hc7 hgt7
              obtain ⟨j, n1, c1, a1, ts, hj, rfl, rfl, hn1, hown, hcr, hgr⟩ := hrel
              by_cases hjp : 0 < j
              · obtain ⟨i, rfl⟩ : ∃ i, j = i + 1 := ⟨j - 1, by omega⟩
                have hs1 : w.heap.size ≤ wr.heap.size := hgr.size
                have hj2 : (3 - (i + 1)) * M + M ≤ (3 - i) * M := by
                  have e : 3 - i = (3 - (i + 1)) + 1 := by omega
                  rw [e, Nat.add_mul, Nat.one_mul]
                  exact Nat.le_refl _
                have hj3 : (3 - i) * M ≤ 3 * M := Nat.mul_le_mul_right _ (by omega)
                go_wp2_with fail
                refine (ih.out (by omega) p wr vars arrays most wide hcr hv0 hv1 ha0 ha1 hm0 hm1).mono ?_
                rintro e w8 ⟨a2, n2, c2, ts2, rfl, hn20, hn21, hown2, hc8, hg8⟩
                rw [HM.out] at hn21
                obtain ⟨g2, rfl, _, _⟩ := ownT_some hown2 hn20
                have hown1 := ownT_cur hown hp hg8
                have hgt8 := only_trans hgr hg8
                have hs8 : w.heap.size ≤ w8.heap.size := hgt8.size
                clear hown hcr hgr hg8
                go_wp2_with (at_builtin; refine wpList_concatT _ rfl _ _ rfl w.heap.size _ _ _ ts rfl hown1 g2 0 n2 c2 ts2 rfl hown2.terms (by omega) hs8 ?_)
                intro a9 c9 w9 hown9 hg9
                have hc9 := cur_ownT hc8 hp hown1 hg9.1
                have hgt9 := only_ownT hgt8 hown1 hg9.1
                clear hown1 hown2 hg9 hgt8 hc8
                go_wp2
                go_roundw
                case rel => exact ⟨i, n1 + n2, c9, a9, _, by omega, by go_num, rfl, by omega, hown9, hc9, hgt9⟩
                case measure => simp [intOf]
              · obtain rfl : j = 0 := by omega
                have hs1 : w.heap.size ≤ wr.heap.size := hgr.size
                have hpr : p < wr.heap.size := hcr.lt
                by_cases hop : op = 2
                · subst hop
                  have harr := hoa rfl
                  clear hoa
                  go_wp2_with fail
                  refine (l1Below_any p _ arrays (hcr.alloc _) (by omega) (by omega)).mono ?_
                  rintro e w8 ⟨z, hz0, hz1, rfl, hc8, hg8⟩
                  have hblk : w8.heap[wr.heap.size]? = some (.cells #[.int .i64 2, .int .i64 0] 80 (0, 0)) := (hg8.block wr.heap.size (by simp) (fun e => by injection e with e; omega)).trans (heap_alloc_new wr _)
                  have k0 : w8.cell? ⟨wr.heap.size, 0, none⟩ = some (.int .i64 2) := by rw [cell_of_row w8 _ 0 _ _ _ hblk]; rfl
                  have k1 : w8.cell? ⟨wr.heap.size, 1, none⟩ = some (.int .i64 0) := by rw [cell_of_row w8 _ 1 _ _ _ hblk]; rfl
                  have kf : w8.frozen? ⟨wr.heap.size, 1, none⟩ = false := frozen_of_row w8 _ 1 _ _ hblk
                  have hblt : wr.heap.size < w8.heap.size := (Array.getElem?_eq_some_iff.1 hblk).1
                  have hown8 : OwnT w8 w.heap.size a1 n1 c1 ts := ownT_cur (hown.alloc _) hp hg8
                  have hgt8 : w.grownBy w8 (some p) := only_trans (only_alloc hgr _) hg8
                  have hput := only_put w8 wr.heap.size 1 (.int .i64 z)
                  have hown10 : OwnT (w8.setCell ⟨wr.heap.size, 1, none⟩ (.int .i64 z)) w.heap.size a1 n1 c1 ts := hown8.apart hput (fun g hg e => by have := (hown.block g hg).2; injection e with e; omega)
                  have hc10 : Cur (w8.setCell ⟨wr.heap.size, 1, none⟩ (.int .i64 z)) p := hc8.other hput (fun g e => by injection e with e; omega)
                  have hgt10 : w.grownBy (w8.setCell ⟨wr.heap.size, 1, none⟩ (.int .i64 z)) (some p) := only_more hgt8 hput (fun g e => by injection e with e; omega)
                  have hs10 : w.heap.size ≤ (w8.setCell ⟨wr.heap.size, 1, none⟩ (.int .i64 z)).heap.size := hgt10.size
                  have hb10 : (w8.setCell ⟨wr.heap.size, 1, none⟩ (.int .i64 z)).heap[wr.heap.size]? = some (.cells #[.int .i64 2, .int .i64 z] 80 (0, 0)) := by
                    rw [heap_setCell_same w8 wr.heap.size 1 _ _ _ hblk]; rfl
                  have q0 : (w8.setCell ⟨wr.heap.size, 1, none⟩ (.int .i64 z)).cell? ⟨wr.heap.size, 0, none⟩ = some (.int .i64 2) := by rw [cell_of_row _ _ 0 _ _ _ hb10]; rfl
                  have q1 : (w8.setCell ⟨wr.heap.size, 1, none⟩ (.int .i64 z)).cell? ⟨wr.heap.size, 1, none⟩ = some (.int .i64 z) := by rw [cell_of_row _ _ 1 _ _ _ hb10]; rfl
                  have Q0 := Lib.hid q0
                  have Q1 := Lib.hid q1
                  have HS10 := Lib.hid hs10
                  clear hblk hown hown8 hgt8 hput hc8 hg8 hcr hgr hb10 q0 q1 hs10
                  go_upto_region 18 with fail
                  have q0 := Q0.out
                  have q1 := Q1.out
                  have hs10 := HS10.out
                  clear Q0 Q1 HS10 k0 k1 kf hblt
                  generalize w8.setCell ⟨wr.heap.size, 1, none⟩ (.int .i64 z) = w10 at *
                  go_wp2_with (at_builtin; refine wpList_pushT _ rfl _ _ rfl w.heap.size _ _ _ ts rfl (hown10.alloc _) w10.heap.size 2 z rfl (by simp) (by simp) (inTm_small (by omega) (by omega) (by omega) (by omega)) (by omega) (by simp; omega) ?_)
                  intro a9 c9 w9 hown9 hg9
                  have hc9 := cur_ownT (hc10.alloc _) hp (hown10.alloc _) hg9.1
                  have hgt9 := only_ownT (only_alloc hgt10 _) (hown10.alloc _) hg9.1
                  clear hown10 hg9 hc10 hgt10 q0 q1
                  go_wp2
                  go_ret
                  exact ⟨a9, n1 + 1, c9, _, rfl, by omega, by rw [HLG.out]; omega, hown9, hc9, hgt9⟩
                · have hne : (op == 2) = false := by simpa using hop
                  go_wp2_with (at_builtin; refine wpList_pushT _ rfl _ _ rfl w.heap.size _ _ _ ts rfl ((hown.alloc _).alloc _) (wr.heap.size + 1) op 0 rfl (by simp) (by simp) (inTm_small (by omega) (by omega) (by omega) (by omega)) (by omega) (by simp; omega) ?_)
                  intro a9 c9 w9 hown9 hg9
                  have hc9 := cur_ownT ((hcr.alloc _).alloc _) hp ((hown.alloc _).alloc _) hg9.1
                  have hgt9 := only_ownT (only_alloc (only_alloc hgr _) _) ((hown.alloc _).alloc _) hg9.1
                  clear hown hg9 hcr hgr
                  go_wp2
                  go_ret
                  exact ⟨a9, n1 + 1, c9, _, rfl, by omega, by rw [HLG.out]; omega, hown9, hc9, hgt9⟩

theorem draw_all : ∀ d, DrawSaid d := by
  intro d
  induction d with
  | zero => exact draw_zero
  | succ d ih => exact draw_succ d (Lib.hid ih)
theorem l2Draw_any (p : Nat) (w : World) (vars arrays most : Int) (d : Nat) (wide : Bool) (hcur : Cur w p) (hd : d ≤ 10) (hv0 : 0 ≤ vars) (hv1 : vars ≤ 256) (ha0 : 0 ≤ arrays) (ha1 : arrays ≤ 256) (hm0 : 1 ≤ most) (hm1 : most ≤ 256) :
    Calls Try.prog 95 #[.pointer (some ⟨p, 0, none⟩), .int .i64 vars, .int .i64 arrays, .int .i64 most, .int .i64 (d : Int), .bool wide] w (DrewT w p (longest d)) := draw_all d hd p w vars arrays most wide hcur hv0 hv1 ha0 ha1 hm0 hm1
end Go.Proofs.Ytflojbjeloilaaa
/- The contracts of the laws' own helpers on slices of Inputs (written by tools/gen_inputs.py after TermCopies). -/
namespace Go.Proofs.Ytflojbjeloilaaa
open Go.RowKit

/-- A slice of Terms that the call made itself, from block B on. -/
def OwnI (w : World) (B : Nat) (a : Option Addr) (n c : Nat) (ts : List Tm) : Prop :=
  w.ownsRow B 64 2 (.slice a n c) n (flatV ts) ∧ n ≤ 1048576 ∧ ∀ t ∈ ts, InTm t

section
variable {w w' : World} {B : Nat} {a : Option Addr} {n c : Nat} {ts : List Tm}
theorem OwnI.len (h : OwnI w B a n c ts) : ts.length = n := by have := h.1.1; rw [flatV_len] at this; omega
theorem OwnI.terms (h : OwnI w B a n c ts) : Terms w a n ts := by
  have hlen := h.len
  obtain ⟨ho, hn, hin⟩ := h
  refine ⟨hlen, hn, hin, fun hp => ?_⟩
  rcases ho.2 with ⟨_, h0⟩ | ⟨g, cap, cur, e, _, hh, _⟩
  · exact absurd hp (by omega)
  · have ea : a = some ⟨g, 0, none⟩ := by injection e
    subst ea
    refine ⟨g, 0, rfl, (ho.lt g rfl).2, fun i hi => ?_⟩
    rw [Nat.zero_add, ho.cellAt (i * 2) (by omega), ho.cellAt (i * 2 + 1) (by omega)]
    exact flatV_at ts i (by omega)
theorem OwnI.below (h : OwnI w B a n c ts) (hb : Below w.heap.size w w') : OwnI w' B a n c ts :=
  ⟨h.1.kept (row := none) ⟨hb.os, hb.tape, hb.output, hb.size, fun k hk _ => hb.block k hk⟩ (by cases a <;> simp [Value.ownBlock]), h.2⟩
theorem OwnI.base {B' : Nat} (h : OwnI w B a n c ts) (hB : B' ≤ B) : OwnI w B' a n c ts := by
  refine ⟨⟨h.1.1, ?_⟩, h.2⟩
  rcases h.1.2 with hn | ⟨g, cap, cur, e, hb, r⟩
  · exact .inl hn
  · exact .inr ⟨g, cap, cur, e, by omega, r⟩
theorem OwnI.alloc (h : OwnI w B a n c ts) (o : Obj) : OwnI (w.alloc o) B a n c ts := ⟨h.1.alloc o, h.2⟩
theorem OwnI.block (h : OwnI w B a n c ts) : ∀ g, (Value.slice a n c).ownBlock = some g → B ≤ g ∧ g < w.heap.size := h.1.lt
theorem OwnI.apart {row : Option Nat} (h : OwnI w B a n c ts) (hg : w.grownBy w' row) (hr : ∀ g, (Value.slice a n c).ownBlock = some g → row ≠ some g) : OwnI w' B a n c ts := by
  refine ⟨h.1.kept hg ?_, h.2⟩
  cases hv : (Value.slice a n c).ownBlock with
  | none => exact .inl rfl
  | some g => exact .inr fun e => hr g hv e.symm
theorem OwnI.cap (h : OwnI w B a n c ts) : n ≤ c := by
  rcases h.1.2 with ⟨e, h0⟩ | ⟨g, cap, cur, e, hb, hg, hnc, _⟩
  · omega
  · injection e with e1 e2 e3
    omega
end
/-- What a function that makes a slice of the Terms ts leaves. -/
def MadeI (w : World) (ts : List Tm) (e : Ending) (w' : World) : Prop :=
  ∃ a n c, e = .returned (.slice a n c) ∧ OwnI w' w.heap.size a n c ts ∧ Below w.heap.size w w'
theorem info_input : (Try.prog.info? 64).map (fun i => (i.zero, i.size, i.bytes)) = some (some (.agg #[.int .i64 0, .int .i64 0]), 2, 16) := by kernel_rfl
theorem own_putI2 {w : World} {B g n cap : Nat} {ts : List Tm} (h : w.ownsRow B 64 2 (.slice (some ⟨g, 0, none⟩) n cap) n (flatV ts)) (k : Nat) (hk : k < ts.length) (x y : Int) :
    ((w.setCell ⟨g, k * 2, none⟩ (.int .i64 x)).setCell ⟨g, k * 2 + 1, none⟩ (.int .i64 y)).ownsRow B 64 2 (.slice (some ⟨g, 0, none⟩) n cap) n (flatV (ts.set k (x, y))) := by
  rw [flatV_set ts k (x, y) hk]; exact ((h.stored (k * 2) _).1.stored (k * 2 + 1) _).1
theorem own_cellI2 {w : World} {B g n cap : Nat} {ts : List Tm} (h : w.ownsRow B 64 2 (.slice (some ⟨g, 0, none⟩) n cap) n (flatV ts)) {k : Nat} (hk : k < n) :
    w.cell? ⟨g, k * 2, none⟩ = some (.int .i64 (tmAt ts k).1) ∧ w.cell? ⟨g, k * 2 + 1, none⟩ = some (.int .i64 (tmAt ts k).2) := by
  have hl : ts.length = n := by have := h.1; rw [flatV_len] at this; omega
  rw [h.cellAt (k * 2) (by omega), h.cellAt (k * 2 + 1) (by omega)]
  exact flatV_at ts k (by omega)
end Go.Proofs.Ytflojbjeloilaaa
