/- Joined texts of this proof (EnvLaw, SpecVal0, Math, Push), in build order. -/
import Derived.Test.YtmppiefkeeanpaaJ10
import Derived.Deep.RegionHeld3
import Derived.Test.YtmppiefkeeanpaaJ2
import Derived.Test.YtmppiefkeeanpaaJ5
import Derived.Test.YtmppiefkeeanpaaJ1
/- A law's argument that is an environment: what it is, as the statement's own reading gives it; what szEnv answers for it. -/
namespace Go.Proofs.Ytmppiefkeeanpaa
open Go.RowKit Go.ChangeShapes Go.WideShapes

def RowsIA (w : World) (a : Option Addr) (n : Nat) (rs : List Sl) : Prop :=
  rs.length = n ∧ (0 < n → ∃ b o, a = some ⟨b, o, none⟩ ∧ b < w.heap.size ∧ ∀ i, i < n → w.cell? ⟨b, o + i, none⟩ = some (slV (slAt rs i))) ∧ ∀ i, i < n → ArgInts w (slAt rs i).1 (slAt rs i).2.1
/-- An argument that is a slice of slices of numbers. -/
def ArgIS (w : World) (a : Option Addr) (len : Nat) : Prop := len ≤ maxLen ∧ (len ≤ 1048576 → ∃ rs, RowsIA w a len rs)
theorem RowsIA.below {w w' : World} {a : Option Addr} {n : Nat} {rs : List Sl} (h : RowsIA w a n rs) (hb : Below w.heap.size w w') : RowsIA w' a n rs := by
  obtain ⟨h1, h2, h3⟩ := h
  refine ⟨h1, fun hp => ?_, fun i hi => (h3 i hi).below hb⟩
  obtain ⟨b, o, rfl, hbl, hc⟩ := h2 hp
  exact ⟨b, o, rfl, Nat.lt_of_lt_of_le hbl hb.size, fun i hi => (hb.cell hbl).trans (hc i hi)⟩
theorem ArgIS.below {w w' : World} {a : Option Addr} {n : Nat} (h : ArgIS w a n) (hb : Below w.heap.size w w') : ArgIS w' a n :=
  ⟨h.1, fun hn => by obtain ⟨rs, hr⟩ := h.2 hn; exact ⟨rs, hr.below hb⟩⟩
structure ArgEnv (w : World) (r : ERow) : Prop where
  vars : ArgInts w r.vars.1 r.vars.2.1
  cells : ArgIS w r.cells.1 r.cells.2.1
theorem ArgEnv.below {w w' : World} {r : ERow} (h : ArgEnv w r) (hb : Below w.heap.size w w') : ArgEnv w' r := ⟨h.vars.below hb, h.cells.below hb⟩
def sumI (rs : List Sl) : Nat → Nat
  | 0 => 0
  | k + 1 => sumI rs k + (slAt rs k).2.1
theorem sumI_mono (rs : List Sl) {j k : Nat} (h : j ≤ k) : sumI rs j ≤ sumI rs k := by
  induction k with
  | zero => obtain rfl : j = 0 := by omega
            exact Nat.le_refl _
  | succ k ih =>
    rcases Nat.lt_or_ge j (k + 1) with hlt | hge
    · exact Nat.le_trans (ih (by omega)) (by simp only [sumI]; omega)
    · obtain rfl : j = k + 1 := by omega
      exact Nat.le_refl _
theorem sumI_each (rs : List Sl) {i n : Nat} (h : i < n) : (slAt rs i).2.1 ≤ sumI rs n := by
  have := sumI_mono rs (show i + 1 ≤ n by omega)
  simp only [sumI] at this
  omega
theorem RowsIA.reads {w : World} {a : Option Addr} {n : Nat} {rs : List Sl} (h : RowsIA w a n rs) (hn : n + sumI rs n ≤ 1048576) : ∃ css, IntsSS w a n rs css := by
  obtain ⟨h1, h2, h3⟩ := h
  have each : ∀ i, i < n → ∃ zs, Ints w (slAt rs i).1 (slAt rs i).2.1 zs := fun i hi => (h3 i hi).2 (by have := sumI_each rs hi; omega)
  obtain ⟨q, hq⟩ := Go.Deep.choose_lt each
  exact ⟨(List.range n).map q, h1, by simp, by omega, h2, fun i hi => by
    rw [show intsAt ((List.range n).map q) i = q i by simp [intsAt, List.getD_eq_getElem?_getD, hi]]
    exact hq i hi⟩

section
variable {H : Type} {enc : TypeId × Value → H} {w : World} {base : Nat} {spare : Nat → Bool} {held : Bool}
theorem argIS_cell {fuel : Nat} {V : Value} {x : DataW H × List MemPlace} (h : DataW.trod enc Try.prog w base spare held fuel 33 [V] = some x) : ∃ a len cap, V = .slice a len cap ∧ ArgIS w a len := by
  rcases Go.Deep.open_slice1 Try.underlying33 (by kernel_rfl) h with ⟨hcs, _⟩ | ⟨ad, l, c, m, n, VV, D, Pl, hcs, _, hl, hm, hmm, _, hx⟩
  · simp at hcs
    exact ⟨none, 0, 0, hcs, by omega, fun _ => ⟨[], rfl, fun h0 => absurd h0 (by omega), fun i hi => absurd hi (by omega)⟩⟩
  simp at hcs
  have hlm : l ≤ m := by rw [hmm]; split <;> omega
  refine ⟨some ad, l, c, hcs, by omega, fun hlen => ?_⟩
  have each : ∀ i, i < l → ∃ z : Sl, ArgInts w z.1 z.2.1 ∧ w.cell? (ad.add i) = some (slV z) := by
    intro i hi
    obtain ⟨h1, h2⟩ := hx i (by omega)
    obtain ⟨a', l', c', e, ha⟩ := argInts_cell Try.underlying28 (by kernel_rfl) h2
    exact ⟨(a', l', c'), ha, by rw [h1, e]; rfl⟩
  obtain ⟨q, hq⟩ := Go.Deep.choose_lt each
  have hat : ∀ i, i < l → slAt ((List.range l).map q) i = q i := fun i hi => by simp [slAt, List.getD_eq_getElem?_getD, hi]
  refine ⟨(List.range l).map q, by simp, fun hp => ?_, fun i hi => by rw [hat i hi]; exact (hq i hi).1⟩
  obtain ⟨b, off, spot⟩ := ad
  have hspot : spot = none := by simpa [Addr.add] using World.cell?_spot (hq 0 hp).2
  subst hspot
  refine ⟨b, off, rfl, World.block_lt_of_cell? w ⟨b, off + 0, none⟩ (by have := (hq 0 hp).2; rwa [Go.WideShapes.add_plain] at this), fun i hi => ?_⟩
  rw [hat i hi]
  have h1 := (hq i hi).2
  rwa [Go.WideShapes.add_plain] at h1
theorem array2 {α : Type} {cs : Array α} (h : cs.size = 2) : ∃ c0 c1, cs = #[c0, c1] := by
  obtain ⟨l⟩ := cs
  match l, h with
  | [c0, c1], _ => exact ⟨c0, c1, rfl⟩
set_option maxRecDepth 100000 in
theorem argEnv_of {rc : Reach} {b0 : Nat} {v : Value} {d : DataW H} {p : List MemPlace}
    (hv : Value.okWide Try.prog w rc b0 52 v) (h : DataW.Trod enc Try.prog w base spare held 52 v d p) : ∃ r : ERow, v = envV r ∧ ArgEnv w r := by
  obtain ⟨cs, rfl, hsz⟩ := okWide_struct Try.underlying52 hv
  obtain ⟨v0, v1, rfl⟩ := array2 (hsz.trans (by kernel_rfl))
  obtain ⟨fuel, hf⟩ := h
  obtain ⟨_, n, hn⟩ := trod_cells Try.underlying52 (by kernel_rfl) (by kernel_rfl) hf
  obtain ⟨u0, y0, c0, d0⟩ := hn 0 _ rfl
  obtain ⟨u1, y1, c1, d1⟩ := hn 1 _ rfl
  simp [Value.cells] at c0 c1
  subst c0 c1
  obtain ⟨a1, l1, k1, rfl, t1⟩ := argInts_cell Try.underlying28 (by kernel_rfl) d0
  obtain ⟨a2, l2, k2, rfl, t2⟩ := argIS_cell d1
  exact ⟨⟨(a1, l1, k1), (a2, l2, k2), []⟩, rfl, ⟨t1, t2⟩⟩
end
theorem szInt64SS_over (a : Option Addr) (n c left : Nat) (w : World) (h : left < n) (hm : n ≤ maxLen) :
    Calls Try.prog 46 #[.slice a n c, .int .i64 (left : Int)] w fun e w' => e = .returned (.int .i64 (-1)) ∧ w = w' := by
  unfold maxLen at hm
  go_enter Try.func46, Try.ntmps46
  go_wp2
  go_ret
  exact ⟨rfl, rfl⟩
set_option maxHeartbeats 800000 in
theorem szInt64SS_rows (a : Option Addr) (n c left : Nat) (rs : List Sl) (w : World) (h : RowsIA w a n rs) (hn : n ≤ left) (hl : left ≤ 1048576) :
    Calls Try.prog 46 #[.slice a n c, .int .i64 (left : Int)] w fun e w' => e = .returned (.int .i64 (szI (n + sumI rs n) left)) ∧ Below w.heap.size w w' := by
  go_enter Try.func46, Try.ntmps46
  go_wp2
  go_loopw [1, 5] (fun q i wr => ∃ k : Nat, k ≤ n ∧ i = .int .i64 k ∧ n + sumI rs k ≤ left ∧ q = .int .i64 ((left - (n + sumI rs k) : Nat) : Int) ∧ Below w.heap.size w wr) (fun _ i _ => n - (intOf i).toNat)
  case atStart => exact ⟨0, Nat.zero_le _, rfl, by simpa [sumI] using hn, by congr 1; simp [sumI]; omega, Below.refl _ _⟩
  case round =>
    obtain ⟨k, hk, rfl, hs, rfl, hbel⟩ := hrel
    by_cases hlt : k < n
    · obtain ⟨_, hcell, harg⟩ := h.below hbel
      obtain ⟨b, o, rfl, hb, hc⟩ := hcell (by omega)
      have hck := hc k hlt
      have hak := (harg k hlt).1
      have hstep : sumI rs (k + 1) = sumI rs k + (slAt rs k).2.1 := rfl
      obtain ⟨⟨a1, n1, c1⟩, Hsl⟩ : ∃ r, Hid (slAt rs k = r) := ⟨_, rfl⟩
      rw [Hsl.out] at hck hak hstep
      simp only [slV] at hck hak hstep
      have HS := Lib.hid hstep
      clear hstep hc hcell harg
      obtain ⟨L, HL⟩ : ∃ L : Nat, Hid (left - (n + sumI rs k) = L) := ⟨_, rfl⟩
      rw [HL.out]
      have hL : L ≤ 1048576 := by have := HL.out; omega
      have HLL := Lib.hid hs
      clear hs
      go_wp2_with fail
      by_cases hfit : n1 ≤ L
      · refine (szInt64S_fits _ _ _ _ _ hfit hL).mono ?_
        rintro e w1 ⟨rfl, rfl⟩
        obtain ⟨M, HM⟩ : ∃ M : Nat, Hid (L - n1 = M) := ⟨_, rfl⟩
        rw [HM.out]
        have hM : M ≤ 1048576 := by have := HM.out; omega
        clear hck
        go_wp2
        go_roundw
        case rel =>
          have q1 := HL.out
          have q2 := HM.out
          have q3 := HS.out
          have q4 := HLL.out
          exact ⟨k + 1, by omega, by go_num, by omega, by congr 1; omega, hbel⟩
        case measure => simp [intOf]; omega
      · refine (szInt64S_over _ _ _ _ _ (by omega) hak).mono ?_
        rintro e w1 ⟨rfl, rfl⟩
        clear hck
        go_wp2
        go_ret
        have q1 := HL.out
        have q3 := HS.out
        have q5 := sumI_mono rs (show k + 1 ≤ n by omega)
        exact ⟨ret_int (by rw [szI_over (by omega)]), hbel⟩
    · obtain rfl : n = k := by omega
      have hL : left - (n + sumI rs n) ≤ 1048576 := by omega
      generalize HL : left - (n + sumI rs n) = L at hL
      go_wp2
      go_ret
      exact ⟨ret_int (by rw [szI_fits hs, HL]), hbel⟩
def SzEnv (w : World) (left : Nat) (r : ERow) (e : Ending) (w' : World) : Prop :=
  Below w.heap.size w w' ∧ (e = .returned (.int .i64 (-1)) ∨ ∃ l : Nat, l ≤ left ∧ e = .returned (.int .i64 (l : Int)) ∧ ∃ rows v, EnvAt w { r with rows := rows } v)
set_option maxHeartbeats 800000 in
theorem szEnv_any (r : ERow) (left : Nat) (w : World) (h : ArgEnv w r) (hl : left ≤ 1048576) :
    Calls Try.prog 22 #[envV r, .int .i64 (left : Int)] w (SzEnv w left r) := by
  obtain ⟨⟨a1, n1, c1⟩, ⟨a2, n2, c2⟩, rows0⟩ := r
  obtain ⟨h1, h2⟩ := h
  simp only [] at h1 h2
  have HB : Below w.heap.size w (w.alloc (.cells #[.slice a1 n1 c1, .slice a2 n2 c2] 52)) := (Below.refl _ _).alloc (Nat.le_refl _) _
  show Calls Try.prog 22 #[.agg #[.slice a1 n1 c1, .slice a2 n2 c2], .int .i64 (left : Int)] w _
  go_enter Try.func22, Try.ntmps22
  go_wp2_with fail
  by_cases e1 : n1 ≤ left
  case neg =>
    refine (szInt64S_over _ _ _ _ _ (by omega) h1.1).mono ?_
    rintro e w1 ⟨rfl, rfl⟩
    go_wp2
    go_ret
    exact ⟨HB, .inl rfl⟩
  refine (szInt64S_fits _ _ _ _ _ e1 hl).mono ?_
  rintro e w1 ⟨rfl, rfl⟩
  obtain ⟨L1, HL1⟩ : ∃ L1 : Nat, Hid (left - n1 = L1) := ⟨_, rfl⟩
  rw [HL1.out]
  have hl1 : L1 ≤ 1048576 := by have := HL1.out; omega
  go_wp2_with fail
  by_cases e2 : n2 ≤ L1
  case neg =>
    refine (szInt64SS_over _ _ _ _ _ (by omega) h2.1).mono ?_
    rintro e w1 ⟨rfl, rfl⟩
    go_wp2
    go_ret
    exact ⟨HB, .inl rfl⟩
  obtain ⟨rs, hrs⟩ := h2.2 (by omega)
  refine (szInt64SS_rows _ _ _ _ _ _ (hrs.below HB) e2 hl1).mono ?_
  rintro e w1 ⟨rfl, hb1⟩
  have hbel := HB.trans (hb1.mono HB.size)
  by_cases e5 : n2 + sumI rs n2 ≤ L1
  · rw [szI_fits e5]
    obtain ⟨L4, HL4⟩ : ∃ L4 : Nat, Hid (L1 - (n2 + sumI rs n2) = L4) := ⟨_, rfl⟩
    rw [HL4.out]
    have hl4 : L4 ≤ 1048576 := by have := HL4.out; omega
    obtain ⟨tz, Tz⟩ := h1.2 (by omega)
    obtain ⟨css, Tc⟩ := hrs.reads (by omega)
    have HP := Lib.hid (show EnvAt w ⟨(a1, n1, c1), (a2, n2, c2), rs⟩ ⟨tz, css⟩ from ⟨Tz, Tc⟩)
    clear Tz Tc hrs h1 h2
    go_wp2
    go_ret
    exact ⟨hbel, .inr ⟨L4, by have q1 := HL1.out; have q4 := HL4.out; omega, rfl, rs, _, HP.out⟩⟩
  · rw [szI_over (by omega)]
    clear hrs h1 h2
    go_wp2
    go_ret
    exact ⟨hbel, .inl rfl⟩
/-- The two blocks of a law over a program and an environment. -/
structure LBox (w wi : World) (c0 c1 : List Value) : Prop where
  prg : Blk wi w.heap.size 51 c0
  env : Blk wi (w.heap.size + 1) 52 c1
  bel : Below w.heap.size w wi
theorem LBox.below {w wi wj : World} {c0 c1 : List Value} (h : LBox w wi c0 c1) (hb : Below wi.heap.size wi wj) : LBox w wj c0 c1 :=
  ⟨h.prg.below hb h.prg.lt, h.env.below hb h.env.lt, h.bel.trans (hb.mono h.bel.size)⟩
theorem lbox_new (w : World) (c0 c1 : List Value) : LBox w ((w.alloc (.cells c0.toArray 51)).alloc (.cells c1.toArray 52)) c0 c1 :=
  ⟨(Blk.new w _ _).alloc _, by simpa using Blk.new (w.alloc _) 52 c1, ((Below.refl _ _).alloc (Nat.le_refl _) _).alloc (by simp) _⟩
end Go.Proofs.Ytmppiefkeeanpaa
/- The contracts of the model's l5Bit, l5Shift, l5Bits, l5Op: what a Term makes of values. -/
namespace Go.Proofs.Ytmppiefkeeanpaa
open Go.RowKit

def shiftF (up : Bool) (S a k : Nat) : Nat := match up with | true => a * 2 ^ k % S | false => a / 2 ^ k
theorem shiftF_zero (up : Bool) {S a : Nat} (h : a < S) : shiftF up S a 0 = a := by cases up <;> simp [shiftF, Nat.mod_eq_of_lt h]
theorem shiftF_nought (up : Bool) (S k : Nat) : shiftF up S 0 k = 0 := by cases up <;> simp [shiftF]
theorem shiftF_up (S a k : Nat) (hk : 0 < k) : shiftF true S (a * 2 % S) (k - 1) = shiftF true S a k := by
  obtain ⟨j, rfl⟩ : ∃ j, k = j + 1 := ⟨k - 1, by omega⟩
  simp only [shiftF, Nat.add_sub_cancel]
  rw [Nat.mod_mul_mod, Nat.pow_succ, Nat.mul_assoc, Nat.mul_comm 2]
theorem shiftF_down (S a k : Nat) (hk : 0 < k) : shiftF false S (a / 2) (k - 1) = shiftF false S a k := by
  obtain ⟨j, rfl⟩ : ∃ j, k = j + 1 := ⟨k - 1, by omega⟩
  simp only [shiftF, Nat.add_sub_cancel]
  rw [Nat.div_div_eq_div_mul, Nat.pow_succ, Nat.mul_comm 2]
def bi (b : Bool) : Nat := if b = true then 1 else 0

theorem l5Bit_any (b : Bool) (w : World) : Calls Try.prog 91 #[.bool b] w fun e w' => e = .returned (.int .i64 (bi b : Int)) ∧ w = w' := by
  cases b
  all_goals
    go_enter Try.func91, Try.ntmps91
    go_wp2
    go_ret
    exact ⟨rfl, rfl⟩
set_option maxHeartbeats 800000 in
theorem l5Shift_any (up : Bool) (S a k : Nat) (w : World) (hS : S ≤ 256) (ha : a < S) (hk : k < 256) :
    Calls Try.prog 90 #[.int .i64 (S : Int), .int .i64 (a : Int), .int .i64 (k : Int), .bool up] w fun e w' => e = .returned (.int .i64 (shiftF up S a k : Int)) ∧ w = w' := by
  obtain ⟨R, HR⟩ : ∃ R, Hid (shiftF up S a k = R) := ⟨_, rfl⟩
  rw [HR.out]
  go_enter Try.func90, Try.ntmps90
  go_wp2
  go_loop [1, 2] (fun q i => ∃ x y : Nat, x < S ∧ y < 256 ∧ q = .int .i64 (x : Int) ∧ i = .int .i64 (y : Int) ∧ Hid (shiftF up S x y = R)) (fun _ i => (intOf i).toNat)
  case atStart => exact ⟨a, k, ha, hk, rfl, rfl, HR⟩
  case round =>
    obtain ⟨x, y, hx, hy, rfl, rfl, hs⟩ := hrel
    clear HR ha hk
    by_cases hy0 : 0 < y
    · by_cases hx0 : 0 < x
      · cases up with
        | true =>
          have hm : Int.tmod ((x : Int) * 2) (S : Int) = ((x * 2 % S : Nat) : Int) := by
            rw [Int.tmod_eq_emod_of_nonneg (by omega)]; rfl
          have hn := Lib.hid (shiftF_up S x y hy0)
          have hl : x * 2 % S < S := Nat.mod_lt _ (by omega)
          go_wp2
          go_round
          case rel => exact ⟨x * 2 % S, y - 1, hl, by omega, by go_num, by go_num, by rw [hn.out]; exact hs⟩
          case measure => simp [intOf]; omega
        | false =>
          have hm : Int.tdiv (x : Int) 2 = ((x / 2 : Nat) : Int) := by
            rw [Int.tdiv_eq_ediv_of_nonneg (by omega)]; rfl
          have hn := Lib.hid (shiftF_down S x y hy0)
          have hl : x / 2 < S := by omega
          go_wp2
          go_round
          case rel => exact ⟨x / 2, y - 1, hl, by omega, by go_num, by go_num, by rw [hn.out]; exact hs⟩
          case measure => simp [intOf]; omega
      · have : x = 0 := by omega
        subst this
        have hR := hs.out
        rw [shiftF_nought] at hR
        subst hR
        go_wp2
        go_ret
        exact ⟨rfl, rfl⟩
    · have : y = 0 := by omega
      subst this
      have hR := hs.out
      rw [shiftF_zero _ hx] at hR
      subst hR
      go_wp2
      go_ret
      exact ⟨rfl, rfl⟩
set_option maxHeartbeats 1600000 in
theorem l5Bits_any (how W a b : Nat) (w : World) (hh : how ≤ 2) (hW : W ≤ 8) (ha : a < 2 ^ W) (hb : b < 2 ^ W) :
    Calls Try.prog 89 #[.int .i64 ((2 ^ W : Nat) : Int), .int .i64 (a : Int), .int .i64 (b : Int), .int .i64 (how : Int)] w fun e w' => e = .returned (.int .i64 (bitF how a b : Int)) ∧ w = w' := by
  have hS : 2 ^ W ≤ 2 ^ 8 := Nat.pow_le_pow_right (by omega) hW
  have HR := Lib.hid (Nat.mod_eq_of_lt (bitF_lt how ha hb))
  have HL := Lib.hid (bitF_lt how ha hb)
  have HST := Lib.hid (fun k => bitF_succ how a b k)
  obtain ⟨R, HR0⟩ : ∃ R, Hid (bitF how a b = R) := ⟨_, rfl⟩
  simp only [HR0.out] at HR HL HST ⊢
  obtain ⟨S, HS⟩ : ∃ S : Nat, Hid (2 ^ W = S) := ⟨_, Lib.hid rfl⟩
  simp only [HS.out] at hS ha hb HR HL ⊢
  have hh3 : how = 0 ∨ how = 1 ∨ how = 2 := by omega
  rcases hh3 with rfl | rfl | rfl
  · rw [show ((0 : Nat) : Int) = 0 from rfl]
    go_enter Try.func89, Try.ntmps89
    go_wp2
    go_loop [9, 10] (fun q i => ∃ k : Nat, k ≤ W ∧ i = .int .i64 ((2 ^ k : Nat) : Int) ∧ q = .int .i64 ((R % 2 ^ k : Nat) : Int)) (fun _ i => S - (intOf i).toNat)
    case atStart => exact ⟨0, Nat.zero_le _, rfl, by rw [Nat.pow_zero, Nat.mod_one]; rfl⟩
    case round =>
      obtain ⟨k, hk, rfl, rfl⟩ := hrel
      by_cases hlt : k < W
      · have hu : 2 ^ k < S := by rw [← HS.out]; exact Nat.pow_lt_pow_right (by omega) hlt
        have hu0 : 0 < 2 ^ k := Nat.pow_pos (by omega)
        have hst := Lib.hid (HST.out k)
        have hsu := Lib.hid (Nat.pow_succ (n := 2) (m := k))
        have hrm : R % 2 ^ k < 2 ^ k := Nat.mod_lt _ hu0
        obtain ⟨u, HU⟩ : ∃ u : Nat, Hid (2 ^ k = u) := ⟨_, Lib.hid rfl⟩
        obtain ⟨u', HU'⟩ : ∃ r : Nat, Hid (2 ^ (k + 1) = r) := ⟨_, Lib.hid rfl⟩
        simp only [HU.out, HU'.out] at hu hu0 hst hsu hrm ⊢
        obtain ⟨r, HQ⟩ : ∃ r : Nat, Hid (R % u = r) := ⟨_, Lib.hid rfl⟩
        obtain ⟨r', HQ'⟩ : ∃ r : Nat, Hid (R % u' = r) := ⟨_, Lib.hid rfl⟩
        simp only [HQ.out, HQ'.out] at hst hrm ⊢
        have d1 : Int.tdiv (a : Int) (u : Int) = ((a / u : Nat) : Int) := by rw [Int.tdiv_eq_ediv_of_nonneg (by omega)]; rfl
        have d2 : Int.tdiv (b : Int) (u : Int) = ((b / u : Nat) : Int) := by rw [Int.tdiv_eq_ediv_of_nonneg (by omega)]; rfl
        have m1 : Int.tmod ((a / u : Nat) : Int) 2 = ((a / u % 2 : Nat) : Int) := by rw [Int.tmod_eq_emod_of_nonneg (Int.natCast_nonneg _)]; rfl
        have m2 : Int.tmod ((b / u : Nat) : Int) 2 = ((b / u % 2 : Nat) : Int) := by rw [Int.tmod_eq_emod_of_nonneg (Int.natCast_nonneg _)]; rfl
        have q1 : a / u ≤ a := Nat.div_le_self _ _
        have q2 : b / u ≤ b := Nat.div_le_self _ _
        generalize a / u = A at d1 m1 hst q1
        generalize b / u = B at d2 m2 hst q2
        have p1 : A % 2 < 2 := Nat.mod_lt _ (by omega)
        have p2 : B % 2 < 2 := Nat.mod_lt _ (by omega)
        generalize A % 2 = x at m1 hst p1
        generalize B % 2 = y at m2 hst p2
        have hx : x = 0 ∨ x = 1 := by omega
        have hy : y = 0 ∨ y = 1 := by omega
        clear p1 p2
        rcases hx with rfl | rfl <;> rcases hy with rfl | rfl
        all_goals
          have hst' := hst.out
          simp [bit1] at hst'
          have HE := Lib.hid hst'
          clear hst' hst
          go_wp2
          go_round
          case rel => exact ⟨k + 1, by omega, by rw [HU'.out, hsu.out]; go_num, by rw [HU'.out, HQ'.out, HE.out] <;> first | rfl | go_num | simp⟩
          case measure => simp [intOf]; omega
      · obtain rfl : W = k := by omega
        rw [HS.out, HR.out]
        clear HR HL HST
        go_wp2
        go_ret
        exact ⟨rfl, rfl⟩
  · rw [show ((1 : Nat) : Int) = 1 from rfl]
    go_enter Try.func89, Try.ntmps89
    go_wp2
    go_loopw [9, 10] (fun q i wr => ∃ k : Nat, k ≤ W ∧ i = .int .i64 ((2 ^ k : Nat) : Int) ∧ q = .int .i64 ((R % 2 ^ k : Nat) : Int) ∧ Hid (w = wr)) (fun _ i _ => S - (intOf i).toNat)
    case atStart => exact ⟨0, Nat.zero_le _, rfl, by rw [Nat.pow_zero, Nat.mod_one]; rfl, Lib.hid rfl⟩
    case round =>
      obtain ⟨k, hk, rfl, rfl, HWR⟩ := hrel
      by_cases hlt : k < W
      · have hu : 2 ^ k < S := by rw [← HS.out]; exact Nat.pow_lt_pow_right (by omega) hlt
        have hu0 : 0 < 2 ^ k := Nat.pow_pos (by omega)
        have hst := Lib.hid (HST.out k)
        have hsu := Lib.hid (Nat.pow_succ (n := 2) (m := k))
        have hrm : R % 2 ^ k < 2 ^ k := Nat.mod_lt _ hu0
        obtain ⟨u, HU⟩ : ∃ u : Nat, Hid (2 ^ k = u) := ⟨_, Lib.hid rfl⟩
        obtain ⟨u', HU'⟩ : ∃ r : Nat, Hid (2 ^ (k + 1) = r) := ⟨_, Lib.hid rfl⟩
        simp only [HU.out, HU'.out] at hu hu0 hst hsu hrm ⊢
        obtain ⟨r, HQ⟩ : ∃ r : Nat, Hid (R % u = r) := ⟨_, Lib.hid rfl⟩
        obtain ⟨r', HQ'⟩ : ∃ r : Nat, Hid (R % u' = r) := ⟨_, Lib.hid rfl⟩
        simp only [HQ.out, HQ'.out] at hst hrm ⊢
        have d1 : Int.tdiv (a : Int) (u : Int) = ((a / u : Nat) : Int) := by rw [Int.tdiv_eq_ediv_of_nonneg (by omega)]; rfl
        have d2 : Int.tdiv (b : Int) (u : Int) = ((b / u : Nat) : Int) := by rw [Int.tdiv_eq_ediv_of_nonneg (by omega)]; rfl
        have m1 : Int.tmod ((a / u : Nat) : Int) 2 = ((a / u % 2 : Nat) : Int) := by rw [Int.tmod_eq_emod_of_nonneg (Int.natCast_nonneg _)]; rfl
        have m2 : Int.tmod ((b / u : Nat) : Int) 2 = ((b / u % 2 : Nat) : Int) := by rw [Int.tmod_eq_emod_of_nonneg (Int.natCast_nonneg _)]; rfl
        have q1 : a / u ≤ a := Nat.div_le_self _ _
        have q2 : b / u ≤ b := Nat.div_le_self _ _
        generalize a / u = A at d1 m1 hst q1
        generalize b / u = B at d2 m2 hst q2
        have p1 : A % 2 < 2 := Nat.mod_lt _ (by omega)
        have p2 : B % 2 < 2 := Nat.mod_lt _ (by omega)
        generalize A % 2 = x at m1 hst p1
        generalize B % 2 = y at m2 hst p2
        have hx : x = 0 ∨ x = 1 := by omega
        have hy : y = 0 ∨ y = 1 := by omega
        clear p1 p2
        rcases hx with rfl | rfl <;> rcases hy with rfl | rfl
        all_goals
          have hst' := hst.out
          simp [bit1] at hst'
          have HE := Lib.hid hst'
          clear hst' hst
          have x00 : max (0 : Int) 0 = 0 := rfl
          have x01 : max (0 : Int) 1 = 1 := rfl
          have x10 : max (1 : Int) 0 = 1 := rfl
          have x11 : max (1 : Int) 1 = 1 := rfl
          go_wp2_with fail
          refine (l1Max_any _ _ _).mono ?_
          rintro e w1 ⟨rfl, rfl⟩
          go_wp2
          go_roundw
          case rel => exact ⟨k + 1, by omega, by rw [HU'.out, hsu.out]; go_num, by rw [HU'.out, HQ'.out, HE.out] <;> first | rfl | go_num | simp, HWR⟩
          case measure => simp [intOf]; omega
      · obtain rfl : W = k := by omega
        rw [HS.out, HR.out]
        clear HR HL HST
        go_wp2
        go_ret
        exact ⟨rfl, HWR.out⟩
  · rw [show ((2 : Nat) : Int) = 2 from rfl]
    go_enter Try.func89, Try.ntmps89
    go_wp2
    go_loop [9, 10] (fun q i => ∃ k : Nat, k ≤ W ∧ i = .int .i64 ((2 ^ k : Nat) : Int) ∧ q = .int .i64 ((R % 2 ^ k : Nat) : Int)) (fun _ i => S - (intOf i).toNat)
    case atStart => exact ⟨0, Nat.zero_le _, rfl, by rw [Nat.pow_zero, Nat.mod_one]; rfl⟩
    case round =>
      obtain ⟨k, hk, rfl, rfl⟩ := hrel
      by_cases hlt : k < W
      · have hu : 2 ^ k < S := by rw [← HS.out]; exact Nat.pow_lt_pow_right (by omega) hlt
        have hu0 : 0 < 2 ^ k := Nat.pow_pos (by omega)
        have hst := Lib.hid (HST.out k)
        have hsu := Lib.hid (Nat.pow_succ (n := 2) (m := k))
        have hrm : R % 2 ^ k < 2 ^ k := Nat.mod_lt _ hu0
        obtain ⟨u, HU⟩ : ∃ u : Nat, Hid (2 ^ k = u) := ⟨_, Lib.hid rfl⟩
        obtain ⟨u', HU'⟩ : ∃ r : Nat, Hid (2 ^ (k + 1) = r) := ⟨_, Lib.hid rfl⟩
        simp only [HU.out, HU'.out] at hu hu0 hst hsu hrm ⊢
        obtain ⟨r, HQ⟩ : ∃ r : Nat, Hid (R % u = r) := ⟨_, Lib.hid rfl⟩
        obtain ⟨r', HQ'⟩ : ∃ r : Nat, Hid (R % u' = r) := ⟨_, Lib.hid rfl⟩
        simp only [HQ.out, HQ'.out] at hst hrm ⊢
        have d1 : Int.tdiv (a : Int) (u : Int) = ((a / u : Nat) : Int) := by rw [Int.tdiv_eq_ediv_of_nonneg (by omega)]; rfl
        have d2 : Int.tdiv (b : Int) (u : Int) = ((b / u : Nat) : Int) := by rw [Int.tdiv_eq_ediv_of_nonneg (by omega)]; rfl
        have m1 : Int.tmod ((a / u : Nat) : Int) 2 = ((a / u % 2 : Nat) : Int) := by rw [Int.tmod_eq_emod_of_nonneg (Int.natCast_nonneg _)]; rfl
        have m2 : Int.tmod ((b / u : Nat) : Int) 2 = ((b / u % 2 : Nat) : Int) := by rw [Int.tmod_eq_emod_of_nonneg (Int.natCast_nonneg _)]; rfl
        have q1 : a / u ≤ a := Nat.div_le_self _ _
        have q2 : b / u ≤ b := Nat.div_le_self _ _
        generalize a / u = A at d1 m1 hst q1
        generalize b / u = B at d2 m2 hst q2
        have p1 : A % 2 < 2 := Nat.mod_lt _ (by omega)
        have p2 : B % 2 < 2 := Nat.mod_lt _ (by omega)
        generalize A % 2 = x at m1 hst p1
        generalize B % 2 = y at m2 hst p2
        have hx : x = 0 ∨ x = 1 := by omega
        have hy : y = 0 ∨ y = 1 := by omega
        clear p1 p2
        rcases hx with rfl | rfl <;> rcases hy with rfl | rfl
        all_goals
          have hst' := hst.out
          simp [bit1] at hst'
          have HE := Lib.hid hst'
          clear hst' hst
          go_wp2
          go_round
          case rel => exact ⟨k + 1, by omega, by rw [HU'.out, hsu.out]; go_num, by rw [HU'.out, HQ'.out, HE.out] <;> first | rfl | go_num | simp⟩
          case measure => simp [intOf]; omega
      · obtain rfl : W = k := by omega
        rw [HS.out, HR.out]
        clear HR HL HST
        go_wp2
        go_ret
        exact ⟨rfl, rfl⟩
set_option maxHeartbeats 1600000 in
theorem l5Op_any (W a b : Nat) (op : Int) (w : World) (hW : W ≤ 8) (ha : a < 2 ^ W) (hb : b < 2 ^ W) (h3 : 3 ≤ op) (h16 : op ≤ 16) :
    Calls Try.prog 68 #[.int .i64 ((2 ^ W : Nat) : Int), .int .i64 op, .int .i64 (a : Int), .int .i64 (b : Int)] w fun e w' => e = .returned (.int .i64 (opN (2 ^ W) op a b : Int)) ∧ w = w' := by
  have hS : 2 ^ W ≤ 2 ^ 8 := Nat.pow_le_pow_right (by omega) hW
  have HBT := Lib.hid (fun (how : Nat) (hh : how ≤ 2) (w' : World) => l5Bits_any how W a b w' hh hW ha hb)
  obtain ⟨S, HS⟩ : ∃ S : Nat, Hid (2 ^ W = S) := ⟨_, Lib.hid rfl⟩
  simp only [HS.out] at hS ha hb HBT ⊢
  clear HS hW
  have hmul : a * b ≤ 255 * 255 := Nat.mul_le_mul (by omega) (by omega)
  obtain ⟨R, HR⟩ : ∃ R, Hid (opN S op a b = R) := ⟨_, rfl⟩
  rw [HR.out]
  by_cases k3 : op = 3
  · subst k3
    have hR : R = S - 1 - a := by rw [← HR.out]; rfl
    subst hR
    go_enter Try.func68, Try.ntmps68
    go_wp2
    go_ret
    exact ⟨by first | rfl | go_num, rfl⟩
  by_cases k4 : op = 4
  · subst k4
    have hR : R = (S - a) % S := by rw [← HR.out]; rfl
    subst hR
    have hm : Int.tmod ((S : Int) - (a : Int)) (S : Int) = (((S - a) % S : Nat) : Int) := by rw [Int.tmod_eq_emod_of_nonneg (by omega), show ((S : Int) - (a : Int)) = ((S - a : Nat) : Int) by omega]; rfl
    go_enter Try.func68, Try.ntmps68
    go_wp2
    go_ret
    exact ⟨by first | rfl | go_num, rfl⟩
  by_cases k5 : op = 5
  · subst k5
    have hR : R = (a + b) % S := by rw [← HR.out]; rfl
    subst hR
    have hm : Int.tmod ((a : Int) + (b : Int)) (S : Int) = (((a + b) % S : Nat) : Int) := by rw [Int.tmod_eq_emod_of_nonneg (by omega)]; rfl
    go_enter Try.func68, Try.ntmps68
    go_wp2
    go_ret
    exact ⟨by first | rfl | go_num, rfl⟩
  by_cases k6 : op = 6
  · subst k6
    have hR : R = (a + S - b) % S := by rw [← HR.out]; rfl
    subst hR
    have hm : Int.tmod ((a : Int) - (b : Int) + (S : Int)) (S : Int) = (((a + S - b) % S : Nat) : Int) := by rw [Int.tmod_eq_emod_of_nonneg (by omega), show ((a : Int) - (b : Int) + (S : Int)) = ((a + S - b : Nat) : Int) by omega]; rfl
    go_enter Try.func68, Try.ntmps68
    go_wp2
    go_ret
    exact ⟨by first | rfl | go_num, rfl⟩
  by_cases k7 : op = 7
  · subst k7
    have hR : R = a * b % S := by rw [← HR.out]; rfl
    subst hR
    have hm : Int.tmod ((a : Int) * (b : Int)) (S : Int) = ((a * b % S : Nat) : Int) := by rw [Int.tmod_eq_emod_of_nonneg (Int.mul_nonneg (by omega) (by omega))]; rfl
    have hlo : 0 ≤ (a : Int) * (b : Int) := Int.mul_nonneg (by omega) (by omega)
    have hhi : (a : Int) * (b : Int) ≤ 65025 := Int.le_trans (Int.ofNat_le.2 hmul) (by decide)
    clear hmul
    go_enter Try.func68, Try.ntmps68
    go_wp2
    go_ret
    exact ⟨by first | rfl | go_num, rfl⟩
  by_cases k8 : op = 8
  · subst k8
    by_cases h0 : b = 0
    · subst h0
      have hR : R = 0 := by rw [← HR.out]; exact Nat.div_zero a
      subst hR
      go_enter Try.func68, Try.ntmps68
      go_wp2
      go_ret
      exact ⟨rfl, rfl⟩
    · obtain ⟨q, HQ⟩ : ∃ q, Hid (a / b = q) := ⟨_, rfl⟩
      have hR : R = q := by rw [← HR.out]; exact HQ.out
      have hbi : ¬ (b : Int) = 0 := by omega
      have hm : Int.tdiv (a : Int) (b : Int) = (q : Int) := by rw [Int.tdiv_eq_ediv_of_nonneg (Int.natCast_nonneg _), ← HQ.out]; rfl
      have hle : q ≤ a := by rw [← HQ.out]; exact Nat.div_le_self _ _
      subst hR
      clear hmul
      go_enter Try.func68, Try.ntmps68
      go_wp2
      go_ret
      exact ⟨by first | rfl | go_num, rfl⟩
  by_cases k9 : op = 9
  · subst k9
    by_cases h0 : b = 0
    · subst h0
      have hR : R = 0 := by rw [← HR.out]; rfl
      subst hR
      go_enter Try.func68, Try.ntmps68
      go_wp2
      go_ret
      exact ⟨rfl, rfl⟩
    · obtain ⟨q, HQ⟩ : ∃ q, Hid (a % b = q) := ⟨_, rfl⟩
      have hR : R = q := by rw [← HR.out]; exact (if_neg h0).trans HQ.out
      have hbi : ¬ (b : Int) = 0 := by omega
      have hm : Int.tmod (a : Int) (b : Int) = (q : Int) := by rw [Int.tmod_eq_emod_of_nonneg (Int.natCast_nonneg _), ← HQ.out]; rfl
      have hle : q ≤ a := by rw [← HQ.out]; exact Nat.mod_le _ _
      subst hR
      clear hmul
      go_enter Try.func68, Try.ntmps68
      go_wp2
      go_ret
      exact ⟨by first | rfl | go_num, rfl⟩
  by_cases k10 : op = 10
  · subst k10
    have hR : R = bitF 0 a b := by rw [← HR.out]; rfl
    subst hR
    go_enter Try.func68, Try.ntmps68
    go_wp2_with fail
    refine (HBT.out 0 (by omega) _).mono ?_
    rintro e w1 ⟨rfl, rfl⟩
    go_wp2
    go_ret
    exact ⟨by first | rfl | go_num, rfl⟩
  by_cases k11 : op = 11
  · subst k11
    have hR : R = bitF 1 a b := by rw [← HR.out]; rfl
    subst hR
    go_enter Try.func68, Try.ntmps68
    go_wp2_with fail
    refine (HBT.out 1 (by omega) _).mono ?_
    rintro e w1 ⟨rfl, rfl⟩
    go_wp2
    go_ret
    exact ⟨by first | rfl | go_num, rfl⟩
  by_cases k12 : op = 12
  · subst k12
    have hR : R = bitF 2 a b := by rw [← HR.out]; rfl
    subst hR
    go_enter Try.func68, Try.ntmps68
    go_wp2_with fail
    refine (HBT.out 2 (by omega) _).mono ?_
    rintro e w1 ⟨rfl, rfl⟩
    go_wp2
    go_ret
    exact ⟨by first | rfl | go_num, rfl⟩
  by_cases k13 : op = 13
  · subst k13
    have hR : R = shiftF true S a b := by rw [← HR.out]; rfl
    subst hR
    go_enter Try.func68, Try.ntmps68
    go_wp2_with fail
    refine (l5Shift_any true S a b _ hS ha (by omega)).mono ?_
    rintro e w1 ⟨rfl, rfl⟩
    go_wp2
    go_ret
    exact ⟨by first | rfl | go_num, rfl⟩
  by_cases k14 : op = 14
  · subst k14
    have hR : R = shiftF false S a b := by rw [← HR.out]; rfl
    subst hR
    go_enter Try.func68, Try.ntmps68
    go_wp2_with fail
    refine (l5Shift_any false S a b _ hS ha (by omega)).mono ?_
    rintro e w1 ⟨rfl, rfl⟩
    go_wp2
    go_ret
    exact ⟨by first | rfl | go_num, rfl⟩
  by_cases k15 : op = 15
  · subst k15
    by_cases hab : a = b
    · have hd : ((a : Int) == (b : Int)) = true := by simp; omega
      have hR : R = bi true := by rw [← HR.out]; exact if_pos hab
      subst hR
      clear hab
      go_enter Try.func68, Try.ntmps68
      go_wp2_with fail
      refine (l5Bit_any _ _).mono ?_
      rintro e w1 ⟨rfl, rfl⟩
      go_wp2
      go_ret
      exact ⟨rfl, rfl⟩
    · have hd : ((a : Int) == (b : Int)) = false := by simp; omega
      have hR : R = bi false := by rw [← HR.out]; exact if_neg hab
      subst hR
      clear hab
      go_enter Try.func68, Try.ntmps68
      go_wp2_with fail
      refine (l5Bit_any _ _).mono ?_
      rintro e w1 ⟨rfl, rfl⟩
      go_wp2
      go_ret
      exact ⟨rfl, rfl⟩
  have k16 : op = 16 := by omega
  subst k16
  have hR : R = bi (decide (a < b)) := by
    rw [← HR.out]
    show (if a < b then 1 else 0) = _
    unfold bi
    simp
  subst hR
  go_enter Try.func68, Try.ntmps68
  go_wp2_with fail
  refine (l5Bit_any _ _).mono ?_
  rintro e w1 ⟨rfl, rfl⟩
  go_wp2
  go_ret
  exact ⟨rfl, rfl⟩
end Go.Proofs.Ytmppiefkeeanpaa
/- Plain mathematics of lists of limbs in base 10000: their value, the one list of a number, sums of limbs. No Go text here. -/
namespace Go.Proofs.Ytmppiefkeeanpaa
open Go.RowKit

/-- The value of a list of limbs, the lowest first. -/
def val : List Int → Nat
  | [] => 0
  | z :: r => z.toNat + 10000 * val r

/-- The limbs of a number (with fuel). -/
def toLF : Nat → Nat → List Int
  | 0, _ => []
  | f + 1, n => if n = 0 then [] else ((n % 10000 : Nat) : Int) :: toLF f (n / 10000)
def toL (n : Nat) : List Int := toLF n n

theorem toLF_more : ∀ (f n : Nat), n ≤ f → toLF f n = toLF n n := by
  intro f
  induction f using Nat.strongRecOn with
  | _ f ih =>
    intro n hn
    cases f with
    | zero => have : n = 0 := by omega
              subst this; rfl
    | succ f =>
      cases n with
      | zero => simp [toLF]
      | succ n =>
        simp only [toLF]
        rw [if_neg (by omega), if_neg (by omega)]
        rw [ih f (by omega) ((n + 1) / 10000) (by omega), ih n (by omega) ((n + 1) / 10000) (by omega)]

theorem toL_zero : toL 0 = [] := rfl
theorem toL_pos {n : Nat} (h : 0 < n) : toL n = ((n % 10000 : Nat) : Int) :: toL (n / 10000) := by
  unfold toL
  cases n with
  | zero => omega
  | succ n =>
    rw [toLF, if_neg (by omega), toLF_more n ((n + 1) / 10000) (by omega)]

/-- All limbs are limbs. -/
def Good (l : List Int) : Prop := ∀ z ∈ l, 0 ≤ z ∧ z ≤ 9999
theorem good_of_to {l : List Int} (h : GoodTo l l.length) : Good l := by
  intro z hz
  obtain ⟨i, hi, rfl⟩ := List.getElem_of_mem hz
  have := h i hi
  rw [List.getD_eq_getElem?_getD, List.getElem?_eq_getElem hi] at this
  exact this
theorem Good.to {l : List Int} (h : Good l) : GoodTo l l.length := fun _ hi => h _ (getD_mem hi)
theorem Good.in64 {l : List Int} (h : Good l) : ∀ z ∈ l, In64 z := fun z hz => ⟨by have := h z hz; omega, by have := h z hz; omega⟩
theorem Good.getD {l : List Int} (h : Good l) (i : Nat) : 0 ≤ l.getD i 0 ∧ l.getD i 0 ≤ 9999 := by
  by_cases hi : i < l.length
  · exact h _ (getD_mem hi)
  · rw [List.getD_eq_getElem?_getD, List.getElem?_eq_none (by omega)]; simp
theorem Good.take {l : List Int} (h : Good l) (k : Nat) : Good (l.take k) := fun z hz => h z (List.mem_of_mem_take hz)
theorem good_nil : Good [] := fun z hz => by simp at hz
theorem Good.snoc {l : List Int} {z : Int} (h : Good l) (h0 : 0 ≤ z) (h1 : z ≤ 9999) : Good (l ++ [z]) := by
  intro x hx
  rcases List.mem_append.1 hx with h' | h'
  · exact h x h'
  · rw [List.mem_singleton] at h'; subst h'; exact ⟨h0, h1⟩

/-- No nought at the end. -/
def Tight (l : List Int) : Prop := 0 < l.length → l.getD (l.length - 1) 0 ≠ 0
theorem tight_cons {x y : Int} {r : List Int} (h : Tight (x :: y :: r)) : Tight (y :: r) := by
  intro _
  have := h (by simp)
  simpa [List.getD_eq_getElem?_getD] using this

theorem val_pos {l : List Int} (hg : Good l) (ht : Tight l) (hp : 0 < l.length) : 0 < val l := by
  induction l with
  | nil => simp at hp
  | cons x r ih =>
    cases r with
    | nil =>
      have h1 := ht (by simp)
      have h2 := hg x (by simp)
      simp at h1
      simp [val]; omega
    | cons y r =>
      have := ih (fun z hz => hg z (List.mem_cons_of_mem _ hz)) (tight_cons ht) (by simp)
      simp only [val] at this ⊢; omega

/-- A number has one list of limbs. -/
theorem toL_val {l : List Int} (hg : Good l) (ht : Tight l) : toL (val l) = l := by
  induction l with
  | nil => rfl
  | cons x r ih =>
    have hp := val_pos hg ht (by simp)
    have hx := hg x (by simp)
    have hr : toL (val r) = r := by
      cases r with
      | nil => rfl
      | cons y r => exact ih (fun z hz => hg z (List.mem_cons_of_mem _ hz)) (tight_cons ht)
    rw [toL_pos hp]
    have e1 : val (x :: r) % 10000 = x.toNat := by simp only [val]; omega
    have e2 : val (x :: r) / 10000 = val r := by simp only [val]; omega
    rw [e1, e2, hr]
    congr 1
    omega

theorem val_toL (n : Nat) : val (toL n) = n := by
  induction n using Nat.strongRecOn with
  | _ n ih =>
    by_cases h : 0 < n
    · rw [toL_pos h, val, ih (n / 10000) (by omega)]; omega
    · have : n = 0 := by omega
      subst this; rfl
theorem good_toL (n : Nat) : Good (toL n) := by
  induction n using Nat.strongRecOn with
  | _ n ih =>
    by_cases h : 0 < n
    · rw [toL_pos h]
      intro z hz
      rcases List.mem_cons.1 hz with rfl | hz
      · omega
      · exact ih (n / 10000) (by omega) z hz
    · have : n = 0 := by omega
      subst this; exact good_nil
theorem tight_toL (n : Nat) : Tight (toL n) := by
  induction n using Nat.strongRecOn with
  | _ n ih =>
    by_cases h : 0 < n
    · rw [toL_pos h]
      by_cases h2 : 0 < n / 10000
      · have := ih (n / 10000) (by omega)
        intro _
        rw [toL_pos h2] at this ⊢
        have := this (by simp)
        simpa [List.getD_eq_getElem?_getD] using this
      · intro _
        have e : n / 10000 = 0 := by omega
        rw [e, toL_zero]
        simp; omega
    · have : n = 0 := by omega
      subst this; intro h; simp [toL_zero] at h

theorem okB_iff (l : List Int) : okB l = true ↔ l.length ≤ 100 ∧ Good l ∧ Tight l := by
  constructor
  · intro h
    have := okB_good h
    exact ⟨this.1, good_of_to this.2.1, this.2.2⟩
  · rintro ⟨h1, h2, h3⟩
    by_cases hp : 0 < l.length
    · rw [okB_last h1 h2.to hp rfl]
      simpa using h3 hp
    · exact okB_nil (by omega)
theorem okB_toL (n : Nat) : okB (toL n) = decide ((toL n).length ≤ 100) := by
  by_cases h : (toL n).length ≤ 100
  · rw [decide_eq_true h]; exact (okB_iff _).2 ⟨h, good_toL n, tight_toL n⟩
  · rw [decide_eq_false h, ← Bool.not_eq_true, okB_iff]; exact fun h' => h h'.1
theorem ok_toL {l : List Int} (h : okB l = true) : toL (val l) = l := toL_val ((okB_iff l).1 h).2.1 ((okB_iff l).1 h).2.2

/-! ### The value of what is put together -/
theorem val_append (a b : List Int) : val (a ++ b) = val a + 10000 ^ a.length * val b := by
  induction a with
  | nil => simp [val]
  | cons x r ih =>
    rw [List.cons_append, val, val, ih, List.length_cons, Nat.pow_succ, Nat.mul_add, Nat.mul_comm (10000 ^ r.length) 10000, ← Nat.mul_assoc]
    omega
theorem val_snoc (a : List Int) (z : Int) : val (a ++ [z]) = val a + 10000 ^ a.length * z.toNat := by
  rw [val_append]; simp [val]
theorem val_replicate (n : Nat) : val (List.replicate n 0) = 0 := by
  induction n with
  | zero => rfl
  | succ n ih => rw [List.replicate_succ, val, ih]; rfl
theorem val_lt {l : List Int} (h : Good l) : val l < 10000 ^ l.length := by
  induction l with
  | nil => simp [val]
  | cons x r ih =>
    have := ih (fun z hz => h z (List.mem_cons_of_mem _ hz))
    have hx := h x (by simp)
    rw [val, List.length_cons, Nat.pow_succ]
    omega
theorem take_snoc' (l : List Int) (k : Nat) (h : k < l.length) : l.take (k + 1) = l.take k ++ [l.getD k 0] := by
  rw [List.take_succ_eq_append_getElem h]; simp [List.getD_eq_getElem?_getD, h]
theorem val_take_succ (l : List Int) (k : Nat) : val (l.take (k + 1)) = val (l.take k) + 10000 ^ k * (l.getD k 0).toNat := by
  by_cases h : k < l.length
  · rw [take_snoc' l k h, val_snoc, List.length_take, Nat.min_eq_left (by omega)]
  · rw [List.take_of_length_le (by omega), List.take_of_length_le (by omega), List.getD_eq_getElem?_getD, List.getElem?_eq_none (by omega)]; simp

/-- How long a list is without noughts at its end. -/
def trimLen (l : List Int) : Nat → Nat
  | 0 => 0
  | n + 1 => if l.getD n 0 = 0 then trimLen l n else n + 1
theorem trimLen_le (l : List Int) (n : Nat) : trimLen l n ≤ n := by
  induction n with
  | zero => simp [trimLen]
  | succ n ih => unfold trimLen; split <;> omega
theorem tight_trim (l : List Int) : ∀ n, n ≤ l.length → Tight (l.take (trimLen l n)) := by
  intro n
  induction n with
  | zero => intro _ h; simp [trimLen] at h
  | succ n ih =>
    intro hn
    unfold trimLen
    split
    · exact ih (by omega)
    · rename_i hne
      intro _
      rw [List.length_take, Nat.min_eq_left hn]
      simpa [List.getD_eq_getElem?_getD] using hne
theorem val_trim (l : List Int) : ∀ n, val (l.take (trimLen l n)) = val (l.take n) := by
  intro n
  induction n with
  | zero => simp [trimLen]
  | succ n ih =>
    unfold trimLen
    split
    · rename_i h0
      rw [ih, val_take_succ, h0]; simp
    · rfl
theorem trim_toL {l : List Int} (h : Good l) : l.take (trimLen l l.length) = toL (val l) := by
  have := val_trim l l.length
  rw [List.take_length] at this
  rw [← this, toL_val (h.take _) (tight_trim l _ (Nat.le_refl _))]
theorem toL_len {l : List Int} (h : Good l) : (toL (val l)).length ≤ l.length := by
  rw [← trim_toL h, List.length_take]; exact Nat.min_le_right _ _
theorem toL_len_lt {n k : Nat} (h : n < 10000 ^ k) : (toL n).length ≤ k := by
  induction k generalizing n with
  | zero => have : n = 0 := by simpa using h
            subst this; simp [toL_zero]
  | succ k ih =>
    by_cases hn : 0 < n
    · rw [toL_pos hn, List.length_cons]
      have : n / 10000 < 10000 ^ k := by rw [Nat.pow_succ] at h; omega
      have := ih this; omega
    · have : n = 0 := by omega
      subst this; simp [toL_zero]
end Go.Proofs.Ytmppiefkeeanpaa
/- Laws for the walk over Try.prog: 'append' of one number to a row of the call's own; an empty row; a cut row. -/
namespace Go.Proofs.Ytmppiefkeeanpaa
open Go.RowKit

theorem info_i64 : (Try.prog.info? 2).map (fun i => (i.zero, i.size, i.bytes)) = some (some (.int .i64 0), 1, 8) := by kernel_rfl

theorem Own.alloc {w : World} {B : Nat} {a : Option Addr} {n c : Nat} {zs : List Int} (h : Own w B a n c zs) (o : Obj) : Own (w.alloc o) B a n c zs := ⟨h.1.alloc o, h.2⟩
theorem own_nil (w : World) (B : Nat) : Own w B none 0 0 [] := ⟨World.ownsRow_nil _ _ _ _, by omega, fun z hz => by simp at hz⟩
theorem own_empty (w : World) (B : Nat) (hB : B ≤ w.heap.size) : Own (w.alloc (.cells #[] 2)) B (some ⟨w.heap.size, 0, none⟩) 0 0 [] :=
  ⟨World.ownsRow_lit w #[] 0 hB (by unfold maxLen; omega) rfl, by omega, fun z hz => by simp at hz⟩
theorem own_one (w : World) (B : Nat) (z : Int) (hz : In64 z) (hB : B ≤ w.heap.size) : Own (w.alloc (.cells #[.int .i64 z] 2)) B (some ⟨w.heap.size, 0, none⟩) 1 1 [z] :=
  ⟨World.ownsRow_lit w #[.int .i64 z] 1 hB (by unfold maxLen; omega) rfl, by omega, fun x hx => by rw [List.mem_singleton] at hx; subst hx; exact hz⟩

/-- The first k numbers of a row of the call's own are such a row. -/
theorem Own.cut {w : World} {B : Nat} {a : Option Addr} {n c k : Nat} {zs : List Int} (h : Own w B a n c zs) (hk : k ≤ n) : Own w B a k c (zs.take k) := by
  have hl := h.len
  obtain ⟨⟨h1, h2⟩, hn, hin⟩ := h
  refine ⟨⟨by simp; omega, ?_⟩, by omega, fun z hz => hin z (List.mem_of_mem_take hz)⟩
  rcases h2 with ⟨e, h0⟩ | ⟨g, cap, cur, e, hb, hg, hnc, hcm, hcs, ht⟩
  · have : k = 0 := by omega
    subst this
    injection e with e1 e2 e3
    subst e1 e3
    exact .inl ⟨rfl, rfl⟩
  · injection e with e1 e2 e3
    subst e1 e3
    refine .inr ⟨g, c, cur, rfl, hb, hg, by omega, hcm, hcs, ?_⟩
    rw [List.map_take, ← ht, List.take_take, Nat.mul_one, Nat.mul_one, Nat.min_eq_left hk]

theorem wpList_push {ops : Array Oper} {rest : List Oper} {o : Oper} {ac : Act} {Q : Exit → Act → World → Prop} (w : World) (hgd : o.guard = none) (s x : Operand)
    (ho : o.op = .call { callee := .builtin .append, args := #[s, x], argTypes := #[28, 28] })
    (B : Nat) (a : Option Addr) (n c : Nat) (zs : List Int) (hs : ac.eval s = .slice a n c) (hown : Own w B a n c zs)
    (g : Nat) (z : Int) (hx : ac.eval x = .slice (some ⟨g, 0, none⟩) 1 1) (hc : w.cell? ⟨g, 0, none⟩ = some (.int .i64 z)) (hz : In64 z) (hn : n < 1048576) (hB : B ≤ w.heap.size)
    (h : ∀ a1 c1 w', Own w' B a1 (n + 1) c1 (zs ++ [z]) → w.grownBy w' (Value.slice a n c).ownBlock → wpList Try.prog ops Q rest (ac.put o.dst (.slice a1 (n + 1) c1)) w') : wpList Try.prog ops Q (o :: rest) ac w := by
  obtain ⟨i0, hi, hz0, hz1, hz2⟩ := info_parts info_i64
  refine wpList_append_own w hgd s x 28 ho B 2 i0 (.int .i64 0) 1 8 Try.underlying28 hi hz0 hz1 hz2 rfl (by omega) (.slice a n c) n (zs.map (Value.int .i64)) hs hown.1
    ⟨g, 0, none⟩ 1 1 [.int .i64 z] hx rfl ?_ ?_ ?_ ?_ hB ?_
  · intro j u hj
    match j, hj with
    | 0, hj => simp at hj; subst hj; simpa [Addr.add] using hc
  · intro u hu; simp at hu; subst hu; rfl
  · unfold maxLen; omega
  · omega
  · intro v' w' h1 h2 _
    have hf : ∃ a1 c1, v' = .slice a1 (n + 1) c1 := by
      rcases h1.2 with ⟨_, h0⟩ | ⟨g', cap, cur, e, _⟩
      · omega
      · exact ⟨_, _, e⟩
    obtain ⟨a1, c1, rfl⟩ := hf
    refine h a1 c1 w' ⟨by simpa using h1, by omega, fun y hy => ?_⟩ h2
    rcases List.mem_append.1 hy with hy | hy
    · exact hown.2.2 y hy
    · rw [List.mem_singleton] at hy; subst hy; exact hz

/-- Behind such an append: what lies below B is as it was. -/
theorem below_push {w0 w w' : World} {B : Nat} {a : Option Addr} {n c : Nat} {zs : List Int} (hb : Below B w0 w) (hown : Own w B a n c zs) (hB : B ≤ w.heap.size) (hg : w.grownBy w' (Value.slice a n c).ownBlock) : Below B w0 w' :=
  hb.grown hg hB (fun k hk => (hown.block k hk).1)

theorem Own.cap {w : World} {B : Nat} {a : Option Addr} {n c : Nat} {zs : List Int} (h : Own w B a n c zs) : n ≤ c := by
  rcases h.1.2 with ⟨e, h0⟩ | ⟨g, cap, cur, e, hb, hg, hnc, _⟩
  · omega
  · injection e with e1 e2 e3
    omega

theorem run_append_nothing (w : World) (ty : TypeId) (v : Value) (B n : Nat) (xs : List Value) (hown : w.ownsRow B 2 1 v n xs) (c : Nat) : (Builtin.append_ #[28, 28] ty #[v, .slice none 0 c]).run Try.prog w = .ok v w := by
  obtain ⟨i0, hi, hz0, hz1, hz2⟩ := info_parts info_i64
  rcases hown.2 with ⟨rfl, rfl⟩ | ⟨g, cap, cur, rfl, _, _, hnc, _⟩
  · simp [Builtin.append_, run_underlying Try.underlying28, sizeOf, typeInfo, hi, Builtin.lenOf, Builtin.firstCells]
  · simp [Builtin.append_, run_underlying Try.underlying28, sizeOf, typeInfo, hi, Builtin.lenOf, Builtin.firstCells, hnc, storeCells]

set_option maxRecDepth 100000 in
/-- 'append(out, xs...)': out a row of the call's own, xs whatever slice of numbers. -/
theorem wpList_concat {ops : Array Oper} {rest : List Oper} {o : Oper} {ac : Act} {Q : Exit → Act → World → Prop} (w : World) (hgd : o.guard = none) (s x : Operand)
    (ho : o.op = .call { callee := .builtin .append, args := #[s, x], argTypes := #[28, 28] })
    (B : Nat) (a : Option Addr) (n c : Nat) (zs : List Int) (hs : ac.eval s = .slice a n c) (hown : Own w B a n c zs)
    (a2 : Option Addr) (m c2 : Nat) (ys : List Int) (hx : ac.eval x = .slice a2 m c2) (hi2 : Ints w a2 m ys) (hn : n + m ≤ 1048576) (hB : B ≤ w.heap.size)
    (h : ∀ a1 c1 w', Own w' B a1 (n + m) c1 (zs ++ ys) → w.grownBy w' (Value.slice a n c).ownBlock → wpList Try.prog ops Q rest (ac.put o.dst (.slice a1 (n + m) c1)) w') : wpList Try.prog ops Q (o :: rest) ac w := by
  have hin : ∀ y ∈ zs ++ ys, In64 y := fun y hy => by
    rcases List.mem_append.1 hy with hy | hy
    · exact hown.2.2 y hy
    · exact hi2.2.2.1 y hy
  cases a2 with
  | none =>
    have hm : m = 0 := by
      rcases Nat.eq_zero_or_pos m with h0 | h0
      · exact h0
      · obtain ⟨b, o', e, _⟩ := hi2.2.2.2 h0
        cases e
    subst hm
    have hys : ys = [] := List.eq_nil_of_length_eq_zero hi2.1
    subst hys
    refine wpList_plain hgd fun K hK' => ?_
    have hrun := run_append_nothing w o.type (.slice a n c) B n _ hown.1 c2
    unfold Oper.wp
    simp [execOp, ho, resolve, invoke, builtin, hs, hx, hrun, Result.andThen]
    exact hK' _ _ (by simpa using h a c w (by simpa using hown) (World.grownBy.refl _ _))
  | some ad =>
    obtain ⟨i0, hi, hz0, hz1, hz2⟩ := info_parts info_i64
    have hl := hi2.1
    refine wpList_append_own w hgd s x 28 ho B 2 i0 (.int .i64 0) 1 8 Try.underlying28 hi hz0 hz1 hz2 rfl (by omega) (.slice a n c) n (zs.map (Value.int .i64)) hs hown.1
      ad m c2 (ys.map (Value.int .i64)) hx (by simp [hl]) ?_ (ints_oneCell _ _) ?_ ?_ hB ?_
    · intro j u hj
      have hjl : j < ys.length := by have := (List.getElem?_eq_some_iff.1 hj).1; simpa using this
      obtain ⟨b, off, e, _, hc⟩ := hi2.2.2.2 (by omega)
      injection e with e
      subst e
      rw [Go.WideShapes.add_plain, hc j (by omega), ← hj]
      simp [List.getD_eq_getElem?_getD, hjl]
    · unfold maxLen; omega
    · omega
    · intro v' w' h1 h2 _
      have hf : ∃ a1 c1, v' = .slice a1 (n + m) c1 := by
        rcases h1.2 with ⟨e, h0⟩ | ⟨g', cap, cur, e, _⟩
        · exact ⟨none, 0, by rw [e, h0]⟩
        · exact ⟨_, _, e⟩
      obtain ⟨a1, c1, rfl⟩ := hf
      exact h a1 c1 w' ⟨by simpa using h1, hn, hin⟩ h2
end Go.Proofs.Ytmppiefkeeanpaa
