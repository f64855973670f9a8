/- The contracts of the model's draws of great numbers. -/
import Derived.Test.YtnbeofnafdljhaaDoorDraw
namespace Go.Proofs.YtnbeofnafdljhaaDoor
open Go.RowKit

/-- The code, as the frame of a law opens it. -/
theorem code_of_row {w : World} {a : Option Addr} {len cap : Nat} {zs : List Int}
    (h : (a = none ∧ len = 0 ∧ cap = 0 ∧ zs = []) ∨
      ∃ x, a = some x ∧ len ≤ cap ∧ cap ≤ maxLen ∧ zs.length = cap ∧ (∀ i, i < zs.length → w.cell? (x.add i) = some (.int .u8 (zs.getD i 0))) ∧ ∀ n ∈ zs, (Lit.int .u8 n).wf = true)
    (hn : len ≤ 4096) : CodeAt w w.heap.size a len := by
  rcases h with ⟨rfl, rfl, rfl, rfl⟩ | ⟨x, rfl, hl, hm, hz, hc, hwf⟩
  · exact ⟨by omega, fun hp => absurd hp (by omega)⟩
  · refine ⟨hn, fun hp => ?_⟩
    obtain ⟨b, off, rfl, hcell⟩ := ints_at hc (by omega)
    refine ⟨b, off, rfl, World.block_lt_of_cell? w ⟨b, off + 0, none⟩ (hcell 0 (by omega)), fun i hi => ?_⟩
    have := bounds_u8 (hwf _ (getD_mem (show i < zs.length by omega)))
    exact ⟨_, this.1, by have := this.2; omega, hcell i (by omega)⟩
theorem CodeAt.below {w w' : World} {a : Option Addr} {n : Nat} (h : CodeAt w w.heap.size a n) (hb : Below w.heap.size w w') : CodeAt w' w.heap.size a n := by
  refine ⟨h.1, fun h0 => ?_⟩
  obtain ⟨b, o, rfl, hbl, hc⟩ := h.2 h0
  refine ⟨b, o, rfl, hbl, fun i hi => ?_⟩
  obtain ⟨z, h1, h2, h3⟩ := hc i hi
  exact ⟨z, h1, h2, (hb.cell (by exact hbl)).trans h3⟩
theorem CodeAt.up {w : World} {a : Option Addr} {n p q : Nat} (h : CodeAt w p a n) (hq : p ≤ q) : CodeAt w q a n := by
  refine ⟨h.1, fun h0 => ?_⟩
  obtain ⟨b, o, rfl, hbl, hc⟩ := h.2 h0
  exact ⟨b, o, rfl, by omega, hc⟩

/-- A new cursor. -/
def NewCur (w : World) (e : Ending) (w' : World) : Prop := ∃ p, e = .returned (.pointer (some ⟨p, 0, none⟩)) ∧ w.heap.size ≤ p ∧ Cur w' p ∧ Below w.heap.size w w'

set_option maxHeartbeats 400000 in
theorem l1New_any (a : Option Addr) (n c : Nat) (w : World) (h : CodeAt w w.heap.size a n) : Calls Tryd.prog 18 #[.slice a n c] w (NewCur w) := by
  have hn := h.1
  go_enter Tryd.func18, Tryd.ntmps18
  go_wp2_with fail
  go_loop [3, 4] (fun q i => ∃ (k : Nat) (x : Int), k ≤ n ∧ i = .int .i64 k ∧ q = .int .i64 x ∧ 0 ≤ x ∧ x ≤ 1073741823) (fun _ i => n - (intOf i).toNat)
  case atStart => exact ⟨0, 141421 + (n : Int), by omega, rfl, rfl, by omega, by omega⟩
  case round =>
    obtain ⟨k, x, hk, rfl, rfl, hx0, hx1⟩ := hrel
    by_cases hlt : k < n
    · obtain ⟨b, o, rfl, hb, hcc⟩ := h.2 (by omega)
      obtain ⟨z, hz0, hz1, hcz⟩ := hcc k hlt
      clear hcc
      go_wp2_with fail
      go_round
      case rel => exact ⟨k + 1, _, by omega, by go_num, rfl, (and30 _).1, (and30 _).2⟩
      case measure => simp [intOf]; omega
    · go_wp2_with fail
      go_ret
      refine ⟨_, rfl, Nat.le_refl _, ⟨a, n, c, ?_, 0, x, Nat.zero_le _, ⟨by omega, by omega⟩, heap_alloc_new w _⟩, (Below.refl _ _).alloc (Nat.le_refl _) _⟩
      exact h.below ((Below.refl _ _).alloc (Nat.le_refl _) _)

/-- A list of numbers was drawn: of at most m numbers that fit; the cursor has gone on, all else stands. -/
def DrewInts (w : World) (p m : Nat) (e : Ending) (w' : World) : Prop :=
  ∃ a n c zs, e = .returned (.slice a n c) ∧ n ≤ m ∧ Own w' w.heap.size a n c zs ∧ Cur w' p ∧ w.grownBy w' (some p)

theorem only_own {a b c : World} {p : Nat} {v : Option Addr} {n k : Nat} {zs : List Int} (h : a.grownBy b (some p)) (ho : Own b a.heap.size v n k zs) (hg : b.grownBy c (Value.slice v n k).ownBlock) : a.grownBy c (some p) :=
  only_more h hg (fun g e => (ho.block g e).1)
theorem cur_own {a b c : World} {p : Nat} {v : Option Addr} {n k : Nat} {zs : List Int} (h : Cur b p) (hp : p < a.heap.size) (ho : Own b a.heap.size v n k zs) (hg : b.grownBy c (Value.slice v n k).ownBlock) : Cur c p :=
  h.other hg (fun g e => Nat.lt_of_lt_of_le hp (ho.block g e).1)
theorem own_cur {a b c : World} {p : Nat} {v : Option Addr} {n k : Nat} {zs : List Int} (ho : Own b a.heap.size v n k zs) (hp : p < a.heap.size) (hg : b.grownBy c (some p)) : Own c a.heap.size v n k zs :=
  ho.other hg (fun g e => by cases e; exact hp)

set_option maxHeartbeats 800000 in
theorem l1DrawNat_any (p : Nat) (w : World) (hcur : Cur w p) : Calls Tryd.prog 26 #[.pointer (some ⟨p, 0, none⟩)] w (DrewInts w p 5) := by
  have hp := hcur.lt
  go_enter Tryd.func26, Tryd.ntmps26
  go_wp2_with fail
  refine (l1Below_any p _ 5 (hcur.alloc _) (by omega) (by omega)).mono ?_
  rintro e w1 ⟨x, hx0, hx1, rfl, hc1, hg1⟩
  have hown0 := own_cur (own_empty w w.heap.size (Nat.le_refl _)) hp hg1
  have hgt := only_trans (only_alloc (World.grownBy.refl w (some p)) _) hg1
  clear hg1
  go_wp2_with fail
  go_loopw [3, 4] (fun v q wr => ∃ (k : Nat) (y : Int) (a : Option Addr) (c : Nat) (zs : List Int), q = .int .i64 y ∧ v = .slice a k c ∧ 0 ≤ y ∧ y + (k : Int) ≤ 5 ∧ Good zs ∧ Own wr w.heap.size a k c zs ∧ Cur wr p ∧ w.grownBy wr (some p)) (fun _ q _ => (intOf q).toNat)
  case atStart => exact ⟨0, x, _, _, [], rfl, rfl, hx0, by omega, good_nil, hown0, hc1, hgt⟩
  case round =>
    clear hown0 hc1 hgt hcur
    obtain ⟨k, y, a, c, zs, rfl, rfl, hy0, hy1, hgd, hown, hcur, hgt⟩ := hrel
    by_cases hlt : 0 < y
    · have hsz := hgt.size
      go_wp2_with fail
      refine (l1Once_any p _ 3 hcur (by omega) (by omega)).mono ?_
      rintro e w2 ⟨bb, rfl, hc2, hg2⟩
      have hown2 := own_cur hown hp hg2
      have hgt2 := only_trans hgt hg2
      have hsz2 := hgt2.size
      clear hown hg2 hgt hcur
      cases bb with
      | true =>
        go_wp2_with fail
        refine (l1Below_any p _ 4 (hc2.alloc _) (by omega) (by omega)).mono ?_
        rintro e w3 ⟨u, hu0, hu1, rfl, hc3, hg3⟩
        obtain ⟨t, rfl⟩ := Int.eq_ofNat_of_zero_le hu0
        obtain ⟨z, hz, hzz, hcell⟩ := lit_at (zs := [0, 9999, 1, 5000]) (k := t) (by intro z hz; simp at hz; unfold In64; omega) (by simp) (Nat.lt_of_lt_of_le hp hsz2) hg3 (by simp; omega)
        have hzg : 0 ≤ z ∧ z ≤ 9999 := by
          have h4 : t < 4 := by omega
          rw [hzz.out]
          match t, h4 with
          | 0, _ => exact ⟨by decide, by decide⟩
          | 1, _ => exact ⟨by decide, by decide⟩
          | 2, _ => exact ⟨by decide, by decide⟩
          | 3, _ => exact ⟨by decide, by decide⟩
        have hown3 := own_cur (hown2.alloc _) hp hg3
        have hgt3 := only_trans (only_alloc hgt2 _) hg3
        have hsz3 := hgt3.size
        clear hown2 hg3 hgt2 hc2
        go_wp2_with (at_builtin; refine wpList_push _ rfl _ _ rfl w.heap.size _ _ _ zs rfl (hown3.alloc _) w3.heap.size z rfl (by simp) hz (by omega) (by simp; omega) ?_)
        intro a4 c4 w4 hown4 hg4
        have hc4 := cur_own (hc3.alloc _) hp (hown3.alloc _) hg4
        have hgt4 := only_own (only_alloc hgt3 _) (hown3.alloc _) hg4
        have hgd4 := hgd.snoc hzg.1 hzg.2
        clear hown3 hg4 hgt3 hc3
        go_wp2_with fail
        go_roundw
        case rel => exact ⟨k + 1, y - 1, a4, c4, _, by go_num, rfl, by omega, by omega, hgd4, hown4, hc4, hgt4⟩
        case measure => simp [intOf]; omega
      | false =>
        go_wp2_with fail
        refine (l1Below_any p _ 10000 hc2 (by omega) (by omega)).mono ?_
        rintro e w3 ⟨z, hz0, hz1, rfl, hc3, hg3⟩
        have hz : In64 z := ⟨by omega, by omega⟩
        have hown3 := own_cur hown2 hp hg3
        have hgt3 := only_trans hgt2 hg3
        have hsz3 := hgt3.size
        clear hown2 hg3 hgt2 hc2
        go_wp2_with (at_builtin; refine wpList_push _ rfl _ _ rfl w.heap.size _ _ _ zs rfl (hown3.alloc _) w3.heap.size z rfl (by simp) hz (by omega) (by simp; omega) ?_)
        intro a4 c4 w4 hown4 hg4
        have hc4 := cur_own (hc3.alloc _) hp (hown3.alloc _) hg4
        have hgt4 := only_own (only_alloc hgt3 _) (hown3.alloc _) hg4
        have hgd4 := hgd.snoc (z := z) (by omega) (by omega)
        clear hown3 hg4 hgt3 hc3
        go_wp2_with fail
        go_roundw
        case rel => exact ⟨k + 1, y - 1, a4, c4, _, by go_num, rfl, by omega, by omega, hgd4, hown4, hc4, hgt4⟩
        case measure => simp [intOf]; omega
    · have hca := hown.cap
      have hln := hown.len
      have hsz := hgt.size
      go_wp2_with fail
      refine (l1Trim_any _ _ _ zs _ hown.ints hca hgd).mono ?_
      rintro e w2 ⟨a2, n2, c2, rfl, hown2, hb2⟩
      go_wp2_with fail
      go_ret
      have hn2 : n2 ≤ 5 := by
        have h1 := toL_len hgd
        rw [hown2.len] at h1; omega
      exact ⟨a2, n2, c2, _, rfl, hn2, hown2.base hsz, hcur.below hb2, only_more hgt (only_below hb2 none) (fun g e => by cases e)⟩

def lenOf : Value → Nat | .slice _ n _ => n | _ => 0

set_option maxHeartbeats 1600000 in
theorem l1DrawAny_any (p : Nat) (w : World) (hcur : Cur w p) : Calls Tryd.prog 19 #[.pointer (some ⟨p, 0, none⟩)] w (DrewInts w p 102) := by
  have hp := hcur.lt
  go_enter Tryd.func19, Tryd.ntmps19
  go_wp2_with fail
  refine (l1DrawNat_any p _ hcur).mono ?_
  rintro e w1 ⟨a, n, c, zs, rfl, hn, hown, hc1, hgt⟩
  clear hcur
  go_wp2_with fail
  refine (l1Once_any p _ 8 hc1 (by omega) (by omega)).mono ?_
  rintro e w2 ⟨bb, rfl, hc2, hg2⟩
  have hown2 := own_cur hown hp hg2
  have hgt2 := only_trans hgt hg2
  clear hown hgt hg2 hc1
  cases bb with
  | false =>
    go_wp2_with fail
    go_ret
    exact ⟨a, n, c, zs, rfl, by omega, hown2, hc2, hgt2⟩
  | true =>
    go_wp2_with fail
    refine (l1Below_any p _ 4 hc2 (by omega) (by omega)).mono ?_
    rintro e w3 ⟨u, hu0, hu1, rfl, hc3, hg3⟩
    have hown3 := own_cur hown2 hp hg3
    have hgt3 := only_trans hgt2 hg3
    have hsz3 := hgt3.size
    clear hown2 hgt2 hg3 hc2
    have hcases : u = 0 ∨ u = 1 ∨ u = 2 ∨ u = 3 := by omega
    rcases hcases with rfl | rfl | rfl | rfl
    · go_wp2_with (at_builtin; refine wpList_push _ rfl _ _ rfl w.heap.size _ _ _ zs rfl (hown3.alloc _) w3.heap.size 0 rfl (by simp) ⟨by omega, by omega⟩ (by omega) (by simp; omega) ?_)
      intro a4 c4 w4 hown4 hg4
      have hc4 := cur_own (hc3.alloc _) hp (hown3.alloc _) hg4
      have hgt4 := only_own (only_alloc hgt3 _) (hown3.alloc _) hg4
      clear hown3 hg4 hgt3 hc3
      go_wp2_with fail
      go_ret
      exact ⟨a4, n + 1, c4, _, rfl, by omega, hown4, hc4, hgt4⟩
    · go_wp2_with fail
      refine (l1Odd_any p _ hc3).mono ?_
      rintro e w4 ⟨od, ho0, ho1, rfl, hc4, hg4⟩
      have hown4 := own_cur hown3 hp hg4
      have hgt4 := only_trans hgt3 hg4
      have hsz4 := hgt4.size
      clear hown3 hgt3 hg4 hc3
      go_wp2_with fail
      refine (l1Below_any p _ 3 (hc4.alloc _) (by omega) (by omega)).mono ?_
      rintro e w5 ⟨x, hx0, hx1, rfl, hc5, hg5⟩
      obtain ⟨t, rfl⟩ := Int.eq_ofNat_of_zero_le hx0
      obtain ⟨z, hz, hzz, hcell⟩ := lit_at (zs := [-1, 10000, od]) (k := t) (by intro z hz; simp at hz; unfold In64; omega) (by simp) (Nat.lt_of_lt_of_le hp hsz4) hg5 (by simp; omega)
      have hown5 := own_cur (hown4.alloc _) hp hg5
      have hgt5 := only_trans (only_alloc hgt4 _) hg5
      have hsz5 := hgt5.size
      clear hown4 hg5 hgt4 hc4
      go_wp2_with (at_builtin; refine wpList_push _ rfl _ _ rfl w.heap.size _ _ _ zs rfl (hown5.alloc _) w5.heap.size z rfl (by simp) hz (by omega) (by simp; omega) ?_)
      intro a6 c6 w6 hown6 hg6
      have hc6 := cur_own (hc5.alloc _) hp (hown5.alloc _) hg6
      have hgt6 := only_own (only_alloc hgt5 _) (hown5.alloc _) hg6
      clear hown5 hg6 hgt5 hc5
      go_wp2_with fail
      go_ret
      exact ⟨a6, n + 1, c6, _, rfl, by omega, hown6, hc6, hgt6⟩
    · go_wp2_with fail
      go_loopw [3] (fun v wr => ∃ (k : Nat) (a : Option Addr) (c : Nat) (zs : List Int), v = .slice a k c ∧ k ≤ 101 ∧ Own wr w.heap.size a k c zs ∧ Cur wr p ∧ w.grownBy wr (some p)) (fun v _ => 101 - lenOf v)
      case atStart => exact ⟨n, a, c, zs, rfl, by omega, hown3, hc3, hgt3⟩
      case round =>
        clear hown3 hc3 hgt3 hsz3
        obtain ⟨k, a, c, zs, rfl, hk, hown, hcur, hgt⟩ := hrel
        go_wp2_with fail
        refine (l1Below_any p _ 2 hcur (by omega) (by omega)).mono ?_
        rintro e w4 ⟨x, hx0, hx1, rfl, hc4, hg4⟩
        have hown4 := own_cur hown hp hg4
        have hgt4 := only_trans hgt hg4
        have hsz4 := hgt4.size
        clear hown hgt hg4 hcur
        by_cases hlt : (k : Int) < 100 + x
        · go_wp2_with (at_builtin; refine wpList_push _ rfl _ _ rfl w.heap.size _ _ _ zs rfl (hown4.alloc _) w4.heap.size 9999 rfl (by simp) ⟨by omega, by omega⟩ (by omega) (by simp; omega) ?_)
          intro a6 c6 w6 hown6 hg6
          have hc6 := cur_own (hc4.alloc _) hp (hown4.alloc _) hg6
          have hgt6 := only_own (only_alloc hgt4 _) (hown4.alloc _) hg6
          clear hown4 hg6 hgt4 hc4
          go_wp2_with fail
          go_roundw
          case rel => exact ⟨k + 1, a6, c6, _, rfl, by omega, hown6, hc6, hgt6⟩
          case measure => simp [lenOf]; omega
        · go_wp2_with fail
          go_ret
          exact ⟨a, k, c, zs, rfl, by omega, hown4, hc4, hgt4⟩
    · go_wp2_with fail
      go_loopw [3] (fun v wr => ∃ (k : Nat) (a : Option Addr) (c : Nat) (zs : List Int), v = .slice a k c ∧ k ≤ 101 ∧ Own wr w.heap.size a k c zs ∧ Cur wr p ∧ w.grownBy wr (some p)) (fun v _ => 101 - lenOf v)
      case atStart => exact ⟨n, a, c, zs, rfl, by omega, hown3, hc3, hgt3⟩
      case round =>
        clear hown3 hc3 hgt3 hsz3
        obtain ⟨k, a, c, zs, rfl, hk, hown, hcur, hgt⟩ := hrel
        go_wp2_with fail
        refine (l1Below_any p _ 2 hcur (by omega) (by omega)).mono ?_
        rintro e w4 ⟨x, hx0, hx1, rfl, hc4, hg4⟩
        have hown4 := own_cur hown hp hg4
        have hgt4 := only_trans hgt hg4
        clear hown hgt hg4 hcur
        by_cases hlt : (k : Int) < 50 + x
        · go_wp2_with fail
          refine (l1Below_any p _ 9999 hc4 (by omega) (by omega)).mono ?_
          rintro e w5 ⟨y, hy0, hy1, rfl, hc5, hg5⟩
          have hown5 := own_cur hown4 hp hg5
          have hgt5 := only_trans hgt4 hg5
          have hsz5 := hgt5.size
          clear hown4 hgt4 hg5 hc4
          go_wp2_with (at_builtin; refine wpList_push _ rfl _ _ rfl w.heap.size _ _ _ zs rfl (hown5.alloc _) w5.heap.size (1 + y) rfl (by simp) ⟨by omega, by omega⟩ (by omega) (by simp; omega) ?_)
          intro a6 c6 w6 hown6 hg6
          have hc6 := cur_own (hc5.alloc _) hp (hown5.alloc _) hg6
          have hgt6 := only_own (only_alloc hgt5 _) (hown5.alloc _) hg6
          clear hown5 hg6 hgt5 hc5
          go_wp2_with fail
          go_roundw
          case rel => exact ⟨k + 1, a6, c6, _, rfl, by omega, hown6, hc6, hgt6⟩
          case measure => simp [lenOf]; omega
        · go_wp2_with fail
          go_ret
          exact ⟨a, k, c, zs, rfl, by omega, hown4, hc4, hgt4⟩
end Go.Proofs.YtnbeofnafdljhaaDoor
