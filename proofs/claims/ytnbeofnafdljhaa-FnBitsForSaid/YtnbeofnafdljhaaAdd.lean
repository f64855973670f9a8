/- The contracts of the functions that add great numbers. -/
import Derived.Test.YtnbeofnafdljhaaCarry
namespace Go.Proofs.Ytnbeofnafdljhaa
open Go.RowKit

/-- A list of limbs, noughts behind it, N in all. -/
def PadTo (d : List Int) (N : Nat) : List Int := d ++ List.replicate (N - d.length) 0
theorem padTo_nil (N : Nat) : PadTo [] N = List.replicate N 0 := by simp [PadTo]
theorem padTo_full {d : List Int} {N : Nat} (h : d.length = N) : PadTo d N = d := by simp [PadTo, h]
theorem padTo_set {d : List Int} {N k : Nat} (z : Int) (h : d.length = k) (hk : k < N) : (PadTo d N).set k z = PadTo (d ++ [z]) N := by
  subst h
  unfold PadTo
  rw [List.set_append_right _ _ (Nat.le_refl _), Nat.sub_self, List.append_assoc]
  congr 1
  rw [show N - d.length = (N - (d ++ [z]).length) + 1 by simp; omega, List.replicate_succ]
  simp
theorem made_zeros {w : World} {B g n cap : Nat} (h : w.ownsRow B 2 1 (.slice (some ⟨g, 0, none⟩) n cap) n (madeCells #[Value.int IntKind.i64 0] n).toList) :
    w.ownsRow B 2 1 (.slice (some ⟨g, 0, none⟩) n cap) n ((PadTo [] n).map (Value.int .i64)) := by
  have e : (madeCells #[Value.int IntKind.i64 0] n).toList = (PadTo [] n).map (Value.int .i64) := by
    rw [toList_madeCells_one, padTo_nil]; simp
  rw [← e]; exact h

theorem wpList_makeInts {ops : Array Oper} {rest : List Oper} {o : Oper} {ac : Act} {Q : Exit → Act → World → Prop} (w : World) (hg : o.guard = none) (l c : Operand) (t : TypeId) (hop : o.op = Op.makeSlice t l c) (ht : Try.prog.underlying t = some (.slice 2))
    (L : Int) (n : Nat) (hl : ac.eval l = .int .i64 L) (hc : ac.eval c = .int .i64 L) (hL : L = (n : Int)) (hn : n ≤ 1048576)
    (hK : ∀ w', w'.ownsRow w.heap.size 2 1 (.slice (some ⟨w.heap.size, 0, none⟩) n n) n ((PadTo [] n).map (Value.int .i64)) → Below w.heap.size w w' → wpList Try.prog ops Q rest (ac.put o.dst (.slice (some ⟨w.heap.size, 0, none⟩) n n)) w') :
    wpList Try.prog ops Q (o :: rest) ac w := by
  obtain ⟨i0, hi, hz0, hz1, hz2⟩ := info_parts info_i64
  refine wpList_make_full w hg l c t hop w.heap.size 2 i0 (.int .i64 0) 1 ht hi hz0 hz1 .i64 .i64 L L n hl hc hL hL (by rw [hz2]; omega) (by unfold maxLen; omega) (Nat.le_refl _) ?_
  intro w' h1 h2
  refine hK w' (made_zeros ?_) ((Below.refl _ _).grown h2 (Nat.le_refl _) (fun k hk => by cases hk))
  rw [Nat.mul_one] at h1
  exact h1

theorem carry_zero {d : List Int} {k T : Nat} {c : Int} (h : val d + 10000 ^ k * c.toNat = T) (hT : T < 10000 ^ k) (hc : 0 ≤ c) : c = 0 := by
  rcases Int.lt_or_eq_of_le hc with h' | h'
  · have : 10000 ^ k * 1 ≤ 10000 ^ k * c.toNat := Nat.mul_le_mul_left _ (by omega)
    omega
  · exact h'.symm

set_option maxHeartbeats 800000 in
theorem plus_any (a b : Option Addr) (n m c d : Nat) (xs ys : List Int) (w : World) (hx : Ints w a n xs) (hy : Ints w b m ys) (gx : Good xs) (gy : Good ys) (hn : n ≤ 2000) (hm : m ≤ 2000) :
    Calls Try.prog 43 #[.slice a n c, .slice b m d] w (MadeInts w (toL (val xs + val ys))) := by
  have HL := Lib.hid hx.1
  have HM := Lib.hid hy.1
  obtain ⟨q, hq1, hq2, hq3⟩ : ∃ q : Nat, n ≤ q ∧ m ≤ q ∧ (q = n ∧ ¬ n < m ∨ q = m ∧ n < m) := by
    by_cases h : n < m
    · exact ⟨m, by omega, by omega, .inr ⟨rfl, h⟩⟩
    · exact ⟨n, by omega, by omega, .inl ⟨rfl, h⟩⟩
  have HT : Hid (val xs + val ys < 10000 ^ (q + 1)) := by
    have h1 := val_lt gx
    have h2 := val_lt gy
    rw [HL.out] at h1
    rw [HM.out] at h2
    have h3 : 10000 ^ n ≤ 10000 ^ q := Nat.pow_le_pow_right (by omega) hq1
    have h4 : 10000 ^ m ≤ 10000 ^ q := Nat.pow_le_pow_right (by omega) hq2
    show _ < _
    rw [Nat.pow_succ]; omega
  have hq4 : q ≤ 2000 := by omega
  rcases hq3 with ⟨rfl, hcase⟩ | ⟨rfl, hcase⟩
  all_goals
    go_enter Try.func43, Try.ntmps43
    go_wp2_with (at_make; refine wpList_makeInts _ rfl _ _ 45 rfl Try.underlying45 _ (q + 1) rfl rfl (by omega) (by omega) ?_)
    intro w1 HO hb1
    go_wp2
    go_loopw [6, 7, 17] (fun cv _ i wr => ∃ (k : Nat) (ds : List Int) (cy : Int), k ≤ q + 1 ∧ i = .int .i64 k ∧ cv = .int .i64 cy ∧ 0 ≤ cy ∧ cy ≤ 1 ∧ Hid (ds.length = k) ∧ Good ds ∧
        Hid (val ds + 10000 ^ k * cy.toNat = val (xs.take k) + val (ys.take k)) ∧ wr.ownsRow w.heap.size 2 1 (.slice (some ⟨w.heap.size, 0, none⟩) (q + 1) (q + 1)) (q + 1) ((PadTo ds (q + 1)).map (Value.int .i64)) ∧ Below w.heap.size w wr)
      (fun _ _ i _ => q + 1 - (intOf i).toNat)
    case atStart => exact ⟨0, [], 0, Nat.zero_le _, rfl, rfl, by omega, by omega, rfl, good_nil, by simp [val, Hid], HO, hb1⟩
    case round =>
      clear HO hb1
      obtain ⟨k, ds, cy, hk, rfl, rfl, hc0, hc1, hdl, hgd, hv, hown, hbel⟩ := hrel
      by_cases hlt : k < q + 1
      · obtain ⟨x, hxk⟩ : ∃ x, Hid (x = xs.getD (k : Int).toNat 0) := ⟨_, rfl⟩
        obtain ⟨y, hyk⟩ : ∃ y, Hid (y = ys.getD (k : Int).toNat 0) := ⟨_, rfl⟩
        have hxk' : Hid (x = xs.getD k 0) := by rw [hxk.out]; rfl
        have hyk' : Hid (y = ys.getD k 0) := by rw [hyk.out]; rfl
        have hxb := gx.getD k
        rw [← hxk'.out] at hxb
        have hyb := gy.getD k
        rw [← hyk'.out] at hyb
        have hst := carry_step (s := cy + (x + y)) hdl.out hc0 (by omega) hv.out
        have HST : Hid (val (ds ++ [(cy + (x + y)) % 10000]) + 10000 ^ (k + 1) * ((cy + (x + y)) / 10000).toNat = val (xs.take (k + 1)) + val (ys.take (k + 1))) := by
          show _ = _
          rw [hst, val_take_succ, val_take_succ, ← hxk'.out, ← hyk'.out]
          have e : (cy + (x + y) - cy).toNat = x.toNat + y.toNat := by omega
          rw [e, Nat.mul_add]; omega
        clear hst
        have hc2 := own_cell hown hlt
        generalize (PadTo ds (q + 1)).getD k 0 = y0 at hc2
        have hf2 := hown.frozenAt k
        have HO2 := own_put hown k ((cy + (x + y)) % 10000)
        rw [padTo_set _ hdl.out hlt] at HO2
        have hbel2 : Below w.heap.size w (wr.setCell ⟨w.heap.size, k, none⟩ (.int .i64 ((cy + (x + y)) % 10000))) := hbel.setCell (Nat.le_refl _) _
        have hgd1 : Good (ds ++ [(cy + (x + y)) % 10000]) := hgd.snoc (by omega) (by omega)
        have hdl1 : Hid ((ds ++ [(cy + (x + y)) % 10000]).length = k + 1) := by simp [Hid, hdl.out]
        have hx' := hx.below hbel
        have hy' := hy.below hbel
        clear hown hbel hv
        go_wp2_with fail
        refine (limb_any _ _ _ xs _ hx' _ (by omega) (by omega) x hxk).mono ?_
        rintro e w2 ⟨rfl, rfl⟩
        go_wp2_with fail
        refine (limb_any _ _ _ ys _ hy' _ (by omega) (by omega) y hyk).mono ?_
        rintro e w2 ⟨rfl, rfl⟩
        go_wp2_with fail
        go_roundw
        case rel => exact ⟨k + 1, _, (cy + (x + y)) / 10000, by omega, by go_num, rfl, by omega, by omega, hdl1, hgd1, HST, HO2, hbel2⟩
        case measure => simp [intOf]; omega
      · obtain rfl : q + 1 = k := by omega
        have h0 := hv.out
        rw [List.take_of_length_le (by rw [HL.out]; omega), List.take_of_length_le (by rw [HM.out]; omega)] at h0
        obtain rfl : cy = 0 := carry_zero h0 HT.out hc0
        have hvd : val ds = val xs + val ys := by simpa using h0
        rw [padTo_full hdl.out] at hown
        have hO : Own wr w.heap.size (some ⟨w.heap.size, 0, none⟩) (q + 1) (q + 1) ds := ⟨hown, by omega, hgd.in64⟩
        have hT : ds.take (trimLen ds (q + 1)) = toL (val xs + val ys) := by rw [← hvd, ← trim_toL hgd, hdl.out]
        have hO2 := hO.cut (trimLen_le ds (q + 1))
        rw [hT] at hO2
        clear hv h0 hown hT hvd
        go_wp2_with fail
        refine (trimmed_any _ _ _ ds _ hO.ints (Nat.le_refl _)).mono ?_
        rintro e w2 ⟨rfl, rfl⟩
        go_wp2_with fail
        go_ret
        exact ⟨_, _, _, rfl, hO2, hbel⟩
end Go.Proofs.Ytnbeofnafdljhaa
