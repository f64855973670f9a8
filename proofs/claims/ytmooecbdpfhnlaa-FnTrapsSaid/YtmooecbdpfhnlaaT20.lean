/- The contracts of the laws' own draws: the dice. What is drawn is not told, only that it is within its bounds. -/
import Derived.Test.YtmooecbdpfhnlaaT19
import Derived.RegionTactic
import Derived.ChangeAlike
namespace Go.Proofs.Ytmooecbdpfhnlaa
open Go.RowKit

theorem and_mask_u (x : Int) (m : Nat) (hm : m < 2147483648) : 0 ≤ bits .and .u64 x (m : Int) ∧ bits .and .u64 x (m : Int) ≤ m := by
  have h1 : (BitVec.ofInt 64 (m : Int)).toNat = m := by
    rw [BitVec.ofInt_natCast, BitVec.toNat_ofNat]; exact Nat.mod_eq_of_lt (by omega)
  have h2 : ((BitVec.ofInt 64 x) &&& (BitVec.ofInt 64 (m : Int))).toNat ≤ m := by
    rw [BitVec.toNat_and, h1]; exact Nat.and_le_right
  show 0 ≤ IntKind.u64.wrap ((BitVec.ofInt 64 x &&& BitVec.ofInt 64 (m : Int)).toNat : Int) ∧ IntKind.u64.wrap ((BitVec.ofInt 64 x &&& BitVec.ofInt 64 (m : Int)).toNat : Int) ≤ m
  rw [IntWalk.u64_in _ (by omega)]
  omega
theorem and24 (x : Int) : 0 ≤ bits .and .u64 x 16777215 ∧ bits .and .u64 x 16777215 ≤ 16777215 := and_mask_u x 16777215 (by omega)

/-- The dice at block p. -/
def Dice (w : World) (p : Nat) : Prop :=
  ∃ a n c, CodeAt w p a n ∧ ∃ (i : Nat) (h : Int), i ≤ n ∧ w.heap[p]? = some (.cells #[.slice a n c, .int .i64 (i : Int), .int .u64 h] 82 (0, 0))
theorem Dice.lt {w : World} {p : Nat} (h : Dice w p) : p < w.heap.size := by
  obtain ⟨a, n, c, _, i, hh, _, hb⟩ := h
  rcases Nat.lt_or_ge p w.heap.size with hl | hl
  · exact hl
  · rw [Array.getElem?_eq_none hl] at hb; cases hb
theorem Dice.below {w w' : World} {p : Nat} (h : Dice w p) (hb : Below w.heap.size w w') : Dice w' p := by
  have hp := h.lt
  obtain ⟨a, n, c, hc, i, hh, h1, h3⟩ := h
  exact ⟨a, n, c, hc.only ⟨hb.os, hb.tape, hb.output, hb.size, fun k hk _ => hb.block k hk⟩, i, hh, h1, (hb.block p hp).trans h3⟩

/-- A number from lo to hi is answered; the dice have gone on, all else stands. -/
def DiceNum (w : World) (p : Nat) (lo hi : Int) (e : Ending) (w' : World) : Prop :=
  ∃ x : Int, lo ≤ x ∧ x ≤ hi ∧ e = .returned (.int .i64 x) ∧ Dice w' p ∧ w.grownBy w' (some p)

theorem dice_step (w : World) (p k : Nat) (v u : Value) (i : Nat) (t : TypeId) (hb : w.heap[p]? = some (.cells #[v, .int .i64 (i : Int), u] t (0, 0))) :
    ((w.drewN k).setCell ⟨p, 1, none⟩ (.int .i64 ((i : Int) + 1))).heap[p]? = some (.cells #[v, .int .i64 ((i + 1 : Nat) : Int), u] t (0, 0)) := by
  rw [heap_setCell_same (w.drewN k) p 1 _ _ _ hb]; rfl

theorem dice_roll (w : World) (p : Nat) (v u : Value) (x y : Int) (t : TypeId) (hb : w.heap[p]? = some (.cells #[v, u, .int .u64 x] t (0, 0))) :
    (w.setCell ⟨p, 2, none⟩ (.int .u64 y)).heap[p]? = some (.cells #[v, u, .int .u64 y] t (0, 0)) := by
  rw [heap_setCell_same w p 2 _ _ _ hb]; rfl

set_option maxHeartbeats 800000 in
theorem diceBelow_any (p : Nat) (w : World) (n : Int) (hd : Dice w p) (hn1 : 1 ≤ n) (hn2 : n ≤ 1099511627776) : Calls Try.prog 19 #[.pointer (some ⟨p, 0, none⟩), .int .i64 n] w (DiceNum w p 0 (n - 1)) := by
  obtain ⟨a, l, c, hcode, i, h, hi, hblk⟩ := hd
  have hl := hcode.1
  have c2 : w.cell? ⟨p, 2, none⟩ = some (.int .u64 h) := by rw [cell_of_row w p 2 _ _ _ hblk]; rfl
  have f2 : w.frozen? ⟨p, 2, none⟩ = false := frozen_of_row w p 2 _ _ hblk
  have HB := Lib.hid hblk
  have hne : (n == 0) = false := by simp; omega
  clear hblk
  go_enter Try.func19, Try.ntmps19
  obtain ⟨h2, H2⟩ : ∃ h2, Hid (IntKind.u64.wrap (IntKind.u64.wrap (h * 6364136223846793005) + 1442695040888963407) = h2) := ⟨_, rfl⟩
  have hx := and24 (h2 / 8589934592)
  go_wp2_with fail
  rw [H2.out]
  have hw : wrap64 (bits .and .u64 (h2 / 8589934592) 16777215) = bits .and .u64 (h2 / 8589934592) 16777215 := IntWalk.wrap64_in _ ⟨by omega, by omega⟩
  rw [hw]
  clear hw
  generalize bits .and .u64 (h2 / 8589934592) 16777215 = x at hx ⊢
  generalize h2 / 8589934592 = x1
  generalize IntKind.u64.wrap (h * 6364136223846793005) = h1
  obtain ⟨hx0, hx1⟩ := hx
  have hb2 : (w.setCell ⟨p, 2, none⟩ (.int .u64 h2)).heap[p]? = some (.cells #[.slice a l c, .int .i64 (i : Int), .int .u64 h2] 82 (0, 0)) := by
    rw [heap_setCell_same w p 2 _ _ _ HB.out]; rfl
  have hg2 := only_put w p 2 (.int .u64 h2)
  have hcode2 := hcode.only hg2
  clear c2 f2 HB hcode H2
  generalize w.setCell ⟨p, 2, none⟩ (.int .u64 h2) = w3 at hb2 hg2 hcode2 ⊢
  have c0 : w3.cell? ⟨p, 0, none⟩ = some (.slice a l c) := by rw [cell_of_row w3 p 0 _ _ _ hb2]; rfl
  have c1 : w3.cell? ⟨p, 1, none⟩ = some (.int .i64 (i : Int)) := by rw [cell_of_row w3 p 1 _ _ _ hb2]; rfl
  have f1 : w3.frozen? ⟨p, 1, none⟩ = false := frozen_of_row w3 p 1 _ _ hb2
  have HB := Lib.hid hb2
  clear hb2
  by_cases hlt : i < l
  · obtain ⟨b, o, rfl, hb, hcc⟩ := hcode2.2 (by omega)
    obtain ⟨z, hz0, hz1, hcz⟩ := hcc i hlt
    clear hcc
    have hm0 := Int.emod_nonneg (x + z) (show n ≠ 0 by omega)
    have hm1 := Int.emod_lt_of_pos (x + z) (show 0 < n by omega)
    go_quiet (fail)
    go_wp2_with fail
    go_quiet (fail)
    go_wp2_with fail
    go_ret
    exact ⟨(x + z) % n, hm0, by omega, rfl, ⟨_, l, c, CodeAt.only (w := w3) hcode2 (cur_only w3 p _ _), i + 1, h2, by omega, dice_step w3 p _ _ _ _ _ HB.out⟩, only_trans hg2 (cur_only w3 p _ _)⟩
  · have hm0 := Int.emod_nonneg x (show n ≠ 0 by omega)
    have hm1 := Int.emod_lt_of_pos x (show 0 < n by omega)
    go_quiet (fail)
    go_wp2_with fail
    go_ret
    exact ⟨x % n, hm0, by omega, rfl, ⟨a, l, c, hcode2, i, h2, hi, HB.out⟩, only_draw hg2 _⟩

def NewDice (w : World) (e : Ending) (w' : World) : Prop := ∃ p, e = .returned (.pointer (some ⟨p, 0, none⟩)) ∧ w.heap.size ≤ p ∧ Dice w' p ∧ Below w.heap.size w w'

set_option maxHeartbeats 800000 in
theorem roll_any (a : Option Addr) (n c : Nat) (s : Int) (w : World) (h : CodeAt w w.heap.size a n) : Calls Try.prog 14 #[.slice a n c, .int .u64 s] w (NewDice w) := by
  have hn := h.1
  go_enter Try.func14, Try.ntmps14
  go_wp2_with fail
  go_loopw [6] (fun i wr => ∃ (k : Nat) (x : Int), k ≤ n ∧ i = .int .i64 k ∧ wr.heap[w.heap.size]? = some (.cells #[.slice a n c, .int .i64 0, .int .u64 x] 82 (0, 0)) ∧ Below w.heap.size w wr) (fun i _ => n - (intOf i).toNat)
  case atStart => exact ⟨0, _, by omega, rfl, heap_alloc_new w _, (Below.refl _ _).alloc (Nat.le_refl _) _⟩
  case round =>
    obtain ⟨k, x, hk, rfl, hblk, hbel⟩ := hrel
    by_cases hlt : k < n
    · obtain ⟨b, o, rfl, hb, hcc⟩ := (h.below hbel).2 (by omega)
      obtain ⟨z, hz0, hz1, hcz⟩ := hcc k hlt
      clear hcc
      have c2 : wr.cell? ⟨w.heap.size, 2, none⟩ = some (.int .u64 x) := by rw [cell_of_row wr w.heap.size 2 _ _ _ hblk]; rfl
      have f2 : wr.frozen? ⟨w.heap.size, 2, none⟩ = false := frozen_of_row wr w.heap.size 2 _ _ hblk
      have HB := Lib.hid hblk
      clear hblk
      go_wp2_with fail
      go_region
      all_goals
        go_wp2_with fail
        go_roundw
        case rel => exact ⟨k + 1, _, by omega, by go_num, dice_roll wr w.heap.size _ _ _ _ _ HB.out, (hbel.setCell (p := ⟨w.heap.size, 2, none⟩) (Nat.le_refl _) _).drew⟩
        case measure => simp [intOf]; omega
    · go_wp2_with fail
      go_ret
      exact ⟨_, rfl, Nat.le_refl _, ⟨a, n, c, h.below hbel, 0, x, Nat.zero_le _, hblk⟩, hbel⟩
end Go.Proofs.Ytmooecbdpfhnlaa
