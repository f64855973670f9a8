/- Joined texts of this proof (TreeOf, ImplSmall), in build order. -/
import Derived.Test.YtbnpoliogldohaaGreatS15
import Derived.Lib.SliceRun
import Derived.Deep.RegionHeld3
import Derived.Deep.AppendLies
import Derived.Test.YtbnpoliogldohaaGreatS10
/- The contracts of slices.Clone at trees, of treeUnder and of treeOf: the tree of an expression. -/
namespace Go.Proofs.YtbnpoliogldohaaGreat
open Go.RowKit

theorem info_tree : (Tryz.prog.info? 202).map (fun i => (i.zero, i.size, i.bytes)) = some (some .nilIface, 1, 16) := by kernel_rfl
theorem rowV_own {w : World} {B : Nat} {a : Option Addr} {n c : Nat} {vs : List Value} (h : w.ownsRow B 202 1 (.slice a n c) n vs) : RowV w (fun b => B ≤ b) a n vs := by
  have hl : vs.length = n := by have := h.1; omega
  refine ⟨hl, fun hp => ?_⟩
  rcases h.2 with ⟨_, h0⟩ | ⟨g, cap, cur, e, hB, hh, hnc, hcm, hcs, htk⟩
  · omega
  · have ea : a = some ⟨g, 0, none⟩ := by injection e
    subst ea
    refine ⟨g, 0, cur, (0, 0), rfl, hB, hh, fun i hi => ?_⟩
    have h1 : cur[i]? = cur.toList[i]? := by simp
    rw [Nat.zero_add, h1, ← List.getElem?_take_of_lt (show i < n * 1 by omega), htk, List.getD_eq_getElem?_getD, List.getElem?_eq_getElem (by omega)]
    rfl
def Ifaces (vs : List Value) : Prop := ∀ v ∈ vs, ∃ u x, v = .iface u x

set_option maxHeartbeats 400000 in
theorem clone_any (F : Nat → Prop) (a : Option Addr) (n c : Nat) (vs : List Value) (w : World) (h : RowV w F a n vs) (hv : Ifaces vs) (hn : n ≤ 3000) :
    Calls Tryz.prog 205 #[.slice a n c] w fun e w' => ∃ a' c', e = .returned (.slice a' n c') ∧ RowV w' (fun b => w.heap.size ≤ b) a' n vs ∧ Below w.heap.size w w' := by
  have qT : ∀ (w : World) (a : Option Addr) (n c n' c' : Nat), (binOp .eql 244 (.slice a n c) (.slice none n' c')).run Tryz.prog w = .ok (.bool a.isNone) w := fun w a n c n' c' => Lib.run_eql_slice_nil w _ _ a n c n' c' Tryz.underlying244
  cases a with
  | none =>
    have hn0 : n = 0 := by
      rcases Nat.eq_zero_or_pos n with h0 | h0
      · exact h0
      · obtain ⟨b, o, cur, fz, e, _⟩ := h.2 h0
        cases e
    subst hn0
    have hvs : vs = [] := List.eq_nil_of_length_eq_zero h.1
    subst hvs
    go_enter Tryz.func205, Tryz.ntmps205
    go_wp2
    go_ret
    exact ⟨none, 0, rfl, ⟨rfl, fun h => absurd h (by omega)⟩, Below.refl _ _⟩
  | some ad =>
    have hnews : ∀ (o : Obj) (j : Nat) (u : Value), vs[j]? = some u → (w.alloc o).cell? (ad.add j) = some u := by
      intro ob j u hj
      have hjl : j < vs.length := (List.getElem?_eq_some_iff.1 hj).1
      have hl := h.1
      obtain ⟨b, o, e, hb, hc⟩ := h.at_ (k := j) (by omega)
      injection e with e
      subst e
      rw [Go.WideShapes.add_plain, World.cell?_alloc_lt w ob _ hb, hc, ← hj, List.getD_eq_getElem?_getD, hj]
      rfl
    have HN := Lib.hid hnews
    clear hnews
    have hl := Lib.hid h.1
    go_enter Tryz.func205, Tryz.ntmps205
    go_wp2_with (at_builtin; refine wpList_pushG _ rfl _ _ 244 202 .nilIface 1 16 rfl Tryz.underlying244 info_tree rfl (by omega) w.heap.size _ 0 0 [] rfl (World.ownsRow_lit w #[] 0 (Nat.le_refl _) (by unfold maxLen; omega) rfl) ad n c vs rfl (by rw [hl.out]; omega) (HN.out _) (fun u hu => by obtain ⟨t, x, rfl⟩ := hv u hu; rfl) (by unfold maxLen; omega) (by omega) (by simp) ?_)
    intro a1 c1 w1 hown hgr
    go_wp2
    go_ret
    exact ⟨a1, c1, rfl, rowV_own hown, ((Below.refl _ _).alloc (Nat.le_refl _) _).grown hgr.1 (by simp) (fun k hk => by simp [Value.ownBlock] at hk; omega)⟩

set_option maxHeartbeats 800000 in
theorem treeUnder_any (F : Nat → Prop) (x y : Int) (a : Option Addr) (m c : Nat) (vs : List Value) (kids : List Tr) (w : World) (hok : (Tr.node x y kids).okT) (hrow : RowV w F a m vs) (hm : kids.length = m)
    (hkids : ∀ i, i < m → IsTree w F (vs.getD i .nilIface) (kids.getD i default)) :
    Calls Tryz.prog 206 #[.agg #[.int .i64 x, .int .i64 y], .slice a m c] w fun e w' => ∃ u z, e = .returned (.iface u z) ∧ IsTree w F (.iface u z) (.node x y kids) ∧ Below w.heap.size w w' := by
  simp only [Tr.okT] at hok
  obtain ⟨hok1, hok2, _⟩ := hok
  obtain ⟨ht0, _, _, hy⟩ := (tOkB_iff _).1 hok1
  simp only [] at ht0 hy
  have hx : x = 0 ∨ x = 1 ∨ x = 2 ∨ (3 ≤ x ∧ x ≤ 17) := by
    have := (takesI_neg x)
    rcases Int.lt_or_le x 0 with h' | h'
    · have := this.2 (.inl h'); omega
    · rcases Int.lt_or_le 17 x with h'' | h''
      · have := this.2 (.inr h''); omega
      · omega
  rcases hx with rfl | rfl | rfl | ⟨h3, h17⟩
  · have hk : kids = [] := List.eq_nil_of_length_eq_zero (by have : takesI 0 = 0 := rfl; omega)
    subst hk
    clear hok1 hok2 hm hkids hrow hy
    go_enter Tryz.func206, Tryz.ntmps206
    go_wp2
    go_ret
    exact ⟨_, _, rfl, .num y, (Below.refl _ _).alloc (Nat.le_refl _) _⟩
  · have hk : kids = [] := List.eq_nil_of_length_eq_zero (by have : takesI 1 = 0 := rfl; omega)
    subst hk
    clear hok1 hok2 hm hkids hrow hy
    go_enter Tryz.func206, Tryz.ntmps206
    go_wp2
    go_ret
    exact ⟨_, _, rfl, .var y, (Below.refl _ _).alloc (Nat.le_refl _) _⟩
  · have h1 : kids.length = 1 := by have : takesI 2 = 1 := rfl; omega
    obtain rfl : m = 1 := by omega
    match kids, h1 with
    | [T], _ =>
      obtain ⟨b, o, rfl, hb, hc⟩ := hrow.at_ (k := 0) (by omega)
      have hT := hkids 0 (by omega)
      obtain ⟨u, z, hv⟩ := hT.iface
      rw [hv] at hc hT
      have HT := Lib.hid hT
      rw [Nat.add_zero] at hc
      clear hok1 hok2 hm hkids hrow hy hv hT
      go_enter Tryz.func206, Tryz.ntmps206
      go_wp2
      go_quiet (fail)
      go_wp2
      go_ret
      exact ⟨_, _, rfl, .cell y _ T HT.out, below_dn ((Below.refl _ _).alloc (Nat.le_refl _) _) _⟩
  · have hy0 : y = 0 := by omega
    subst hy0
    have hm3 : m ≤ 3 := by have := takesI_range x; omega
    have HT := Lib.hid (IsTree.op (w := w) (F := F) x a m c vs kids h3 h17 hm3 hm hrow hkids)
    have n0 : (x == 0) = false := by simp; omega
    have n1 : (x == 1) = false := by simp; omega
    have n2 : (x == 2) = false := by simp; omega
    clear hok1 hok2 hm hkids hrow hy
    go_enter Tryz.func206, Tryz.ntmps206
    go_wp2
    go_ret
    exact ⟨_, _, rfl, HT.out, (Below.refl _ _).alloc (Nat.le_refl _) _⟩

/-- Not the block of this slice. -/
def Av (a : Option Addr) (n c : Nat) : Nat → Prop := fun b => some b ≠ (Value.slice a n c).ownBlock
/-- The stack: a row of the call's own that holds these trees, none of whose blocks is its own. -/
def Stack (w : World) (B : Nat) (a : Option Addr) (m c : Nat) (vs : List Value) (S : List Tr) : Prop :=
  w.ownsRow B 202 1 (.slice a m c) m vs ∧ S.length = m ∧ ∀ i, i < m → IsTree w (Av a m c) (vs.getD i .nilIface) (S.getD i default)
theorem Stack.below {w w' : World} {B : Nat} {a : Option Addr} {m c : Nat} {vs : List Value} {S : List Tr} (h : Stack w B a m c vs S) (hb : Below w.heap.size w w') : Stack w' B a m c vs S :=
  ⟨h.1.kept (row := none) ⟨hb.os, hb.tape, hb.output, hb.size, fun k hk _ => hb.block k hk⟩ (by cases a <;> simp [Value.ownBlock]), h.2.1, fun i hi => (h.2.2 i hi).keep (keeps_below hb)⟩
theorem own_capLe {w : World} {B : Nat} {e : TypeId} {size : Nat} {a : Option Addr} {n c : Nat} {xs : List Value} (h : w.ownsRow B e size (.slice a n c) n xs) : n ≤ c := by
  rcases h.2 with ⟨e1, h0⟩ | ⟨g, cap, cur, e1, hb, hg, hnc, _⟩
  · omega
  · injection e1 with e1 e2 e3
    omega
theorem Stack.len {w : World} {B : Nat} {a : Option Addr} {m c : Nat} {vs : List Value} {S : List Tr} (h : Stack w B a m c vs S) : vs.length = m := by have := h.1.1; omega
theorem Stack.ifaces {w : World} {B : Nat} {a : Option Addr} {m c : Nat} {vs : List Value} {S : List Tr} (h : Stack w B a m c vs S) : Ifaces vs := by
  intro v hv
  obtain ⟨i, hi, rfl⟩ := List.getElem_of_mem hv
  have hl := h.len
  have := (h.2.2 i (by omega)).iface
  rw [List.getD_eq_getElem?_getD, List.getElem?_eq_getElem hi] at this
  exact this

theorem own_cutG {w : World} {B : Nat} {e : TypeId} {a : Option Addr} {r q c : Nat} {xs : List Value} (h : w.ownsRow B e 1 (.slice a (r + q) c) (r + q) xs) : w.ownsRow B e 1 (.slice a r c) r (xs.take r) := by
  obtain ⟨h1, h2⟩ := h
  refine ⟨by simp; omega, ?_⟩
  rcases h2 with ⟨e1, h0⟩ | ⟨g, cap, cur, e1, hb, hg, hnc, hcm, hcs, ht⟩
  · have hr : r = 0 := by omega
    have hq : q = 0 := by omega
    subst hr hq
    exact .inl ⟨e1, rfl⟩
  · injection e1 with e1 e2 e3
    subst e1 e3
    refine .inr ⟨g, c, cur, rfl, hb, hg, by omega, hcm, hcs, ?_⟩
    rw [← ht, List.take_take, Nat.mul_one, Nat.mul_one, Nat.min_eq_left (by omega)]
theorem RowV.cut {w : World} {F : Nat → Prop} {a : Option Addr} {r q : Nat} {vs : List Value} (h : RowV w F a (r + q) vs) : RowV w F (a.map (·.add r)) q (vs.drop r) := by
  have hl := h.1
  refine ⟨by rw [List.length_drop]; omega, fun hp => ?_⟩
  obtain ⟨b, o, cur, fz, rfl, hF, hh, hc⟩ := h.2 (by omega)
  refine ⟨b, o + r, cur, fz, by simp [Go.WideShapes.add_plain], hF, hh, fun i hi => ?_⟩
  rw [Nat.add_assoc, hc (r + i) (by omega), List.getD_eq_getElem?_getD, List.getD_eq_getElem?_getD, List.getElem?_drop]

theorem own_block_len (a : Option Addr) (n c m d : Nat) : (Value.slice a n c).ownBlock = (Value.slice a m d).ownBlock := by cases a <;> rfl
theorem stack_push {w2 w3 w4 : World} {B : Nat} {sa : Option Addr} {r q sc : Nat} {vs : List Value} {S : List Tr} {o : Obj} {g cap : Nat} {v : Value} {T : Tr} (hst2 : Stack w2 B sa (r + q) sc vs S) (hb4 : Below w2.heap.size w2 w3)
    (hgrow : (w3.alloc o).grownBy w4 (Value.slice sa r sc).ownBlock) (hat : (Value.slice sa r sc).ownBlock = some g ∨ g = w3.heap.size + 1) (hown4 : w4.ownsRow B 202 1 (.slice (some ⟨g, 0, none⟩) (r + 1) cap) (r + 1) (vs.take r ++ [v]))
    (hIT : IsTree w2.drew (Av sa (r + q) sc) v T) : Stack w4 B (some ⟨g, 0, none⟩) (r + 1) cap (vs.take r ++ [v]) (S.take r ++ [T]) := by
  have hl := hst2.len
  have hk : Keeps w2 (Av sa (r + q) sc) w4 (Av (some ⟨g, 0, none⟩) (r + 1) cap) := by
    intro b cur fz hF hh
    have hb : b < w2.heap.size := (Array.getElem?_eq_some_iff.1 hh).1
    have hs := hb4.size
    have hne : some b ≠ (Value.slice sa r sc).ownBlock := by rw [own_block_len sa r sc (r + q) sc]; exact hF
    refine ⟨(hgrow.block b (by simp; omega) hne).trans ((Below.heap_alloc w3 o b (by omega)).trans (hb4.block b hb)), fun e => ?_⟩
    have e' : b = g := by simpa [Value.ownBlock] using e
    subst e'
    rcases hat with h1 | h1
    · exact hne h1.symm
    · omega
  have hSl := hst2.2.1
  refine ⟨hown4, by simp; omega, fun i hi => ?_⟩
  rcases Nat.lt_or_ge i r with h1 | h1
  · rw [List.getD_eq_getElem?_getD, List.getD_eq_getElem?_getD, List.getElem?_append_left (by simp; omega), List.getElem?_append_left (by simp; omega), List.getElem?_take_of_lt h1, List.getElem?_take_of_lt h1, ← List.getD_eq_getElem?_getD, ← List.getD_eq_getElem?_getD]
    exact (hst2.2.2 i (by omega)).keep hk
  · have : i = r := by omega
    subst this
    have e1 : (vs.take i ++ [v]).getD i .nilIface = v := by rw [List.getD_eq_getElem?_getD, List.getElem?_append_right (by simp; omega)]; simp [show i - min i vs.length = 0 by omega]
    have e2 : (S.take i ++ [T]).getD i default = T := by rw [List.getD_eq_getElem?_getD, List.getElem?_append_right (by simp; omega)]; simp [show i - min i S.length = 0 by omega]
    rw [e1, e2]
    exact hIT.keep (fun b cur fz hF hh => hk b cur fz hF hh)
theorem below_drew {B : Nat} {w w' : World} (h : Below B w.drew w') : Below B w w' := ⟨h.os, h.tape, h.output, h.size, h.block⟩

set_option maxRecDepth 100000 in
set_option maxHeartbeats 1600000 in
theorem treeOf_any (a : Option Addr) (n c : Nat) (ts : List Tm) (T : Tr) (w : World) (h : Terms w a n ts) (hn : n ≤ 3000) (hx : Hid (runD 0 ts = some 1)) (hT : Hid (stackOf ts = [T])) :
    Calls Tryz.prog 165 #[.slice a n c] w fun e w' => ∃ u z, e = .returned (.iface u z) ∧ IsTree w' (fun _ => True) (.iface u z) T ∧ Below w.heap.size w w' := by
  have HL := Lib.hid h.1
  go_enter Tryz.func165, Tryz.ntmps165
  go_wp2
  go_loopw [3, 10] (fun st i wr => ∃ (k : Nat) (sa : Option Addr) (m sc : Nat) (vs : List Value), k ≤ n ∧ m ≤ k ∧ i = .int .i64 k ∧ st = .slice sa m sc ∧ Stack wr w.heap.size sa m sc vs (stackOf (ts.take k)) ∧ Below w.heap.size w wr) (fun _ i _ => n - (intOf i).toNat)
  case atStart => exact ⟨0, none, 0, 0, [], Nat.zero_le _, Nat.le_refl _, rfl, rfl, ⟨World.ownsRow_nil _ _ _ _, rfl, fun i hi => absurd hi (by omega)⟩, Below.refl _ _⟩
  case round =>
    obtain ⟨k, sa, m, sc, vs, hk, hmk, rfl, rfl, hst, hbel⟩ := hrel
    by_cases hlt : k < n
    · obtain ⟨b, o, x, y, rfl, hb, hz, hin1, hin2, hc1, hc2⟩ := (h.below (Nat.le_refl _) hbel).at_ hlt
      obtain ⟨d, hd, hS1, hS2, hS3⟩ := stack_take hx.out k
      obtain ⟨ht1, ht2, ht3⟩ := runD_at hx.out (by rw [HL.out]; exact hlt) hd
      have hS := Lib.hid (stackOf_succ ts k (by rw [HL.out]; exact hlt))
      rw [hz.out] at ht1 ht2 hS
      have hm : (stackOf (ts.take k)).length = m := hst.2.1
      have hq0 := ((tOkB_iff _).1 ht1).1
      simp only [] at ht2 hq0
      obtain ⟨q, HQ⟩ : ∃ q : Nat, Hid (takesI x = q) := ⟨(takesI x).toNat, by show _ = _; omega⟩
      have hqm : q ≤ m := by have := HQ.out; omega
      have hq3 : q ≤ 3 := by have := HQ.out; have := takesI_range x; omega
      clear ht3 hd hS1 hS2 hm hq0 ht2
      obtain ⟨r, rfl⟩ : ∃ r, m = r + q := ⟨m - q, by omega⟩
      have hst1 := hst.below ((Below.refl _ _).alloc (Nat.le_refl _) (.cells #[.int .i64 x, .int .i64 y] 138))
      have hle := own_capLe hst.1
      have hbx0 : (wr.alloc (.cells #[.int .i64 x, .int .i64 y] 138)).cell? ⟨wr.heap.size, 0, none⟩ = some (.int .i64 x) := by simp
      have hbx1 : (wr.alloc (.cells #[.int .i64 x, .int .i64 y] 138)).cell? ⟨wr.heap.size, 1, none⟩ = some (.int .i64 y) := by simp
      have hrow := (rowV_own hst1.1).cut
      have hokN : Hid ((Tr.node x y ((stackOf (ts.take k)).drop r)).okT) := by
        show Tr.okT _
        simp only [Tr.okT]
        refine ⟨ht1, ?_, ?_⟩
        · rw [HQ.out, List.length_drop, hst.2.1]; omega
        · exact (oks_iff _).2 (fun t ht => (oks_iff _).1 hS3 t (List.mem_of_mem_drop ht))
      have hifs : Ifaces (vs.drop r) := fun v hv => hst.ifaces v (List.mem_of_mem_drop hv)
      have HX0 := Lib.hid hbx0
      have HX1 := Lib.hid hbx1
      clear hbx0 hbx1
      by_cases hcap : r = sc
      · subst hcap
        obtain rfl : q = 0 := by omega
        have hrow' : RowV (wr.alloc (.cells #[.int .i64 x, .int .i64 y] 138)) (fun _ => True) sa 0 (vs.drop r) := ⟨hrow.1, fun h => absurd h (by omega)⟩
        go_wp2_with fail
        refine (takes_any _ _).mono ?_
        rintro e w1 ⟨rfl, rfl⟩
        rw [HQ.out]
        go_wp2_with fail
        refine (clone_any _ _ _ _ (vs.drop r) _ hrow' hifs (by omega)).mono ?_
        rintro e w2 ⟨ta, tc, rfl, hrow2, hb2⟩
        have hst2 := hst1.below hb2
        have hx0 : w2.cell? ⟨wr.heap.size, 0, none⟩ = some (.int .i64 x) := (hb2.cell (by simp)).trans HX0.out
        have hx1 : w2.cell? ⟨wr.heap.size, 1, none⟩ = some (.int .i64 y) := (hb2.cell (by simp)).trans HX1.out
        have hrowF : RowV w2 (Av sa (r + 0) r) ta 0 (vs.drop r) := hrow2.keep (fun b _ _ hF _ => ⟨rfl, fun e => by have := (hst.1.lt b e.symm).2; have := hF; simp at this; omega⟩)
        have hkF : ∀ i, i < 0 → IsTree w2.drew (Av sa (r + 0) r) ((vs.drop r).getD i .nilIface) (((stackOf (ts.take k)).drop r).getD i default) := fun i hi => by
          have := (hst2.2.2 (r + i) (by omega)).keep (w' := w2.drew) (F' := Av sa (r + 0) r) (fun _ _ _ hF _ => ⟨rfl, hF⟩)
          rw [List.getD_eq_getElem?_getD, List.getD_eq_getElem?_getD] at this ⊢
          rw [List.getElem?_drop, List.getElem?_drop]
          exact this
        have HKF := Lib.hid hkF
        have hkl : ((stackOf (ts.take k)).drop r).length = 0 := by rw [List.length_drop, hst2.2.1]; omega
        have HKL := Lib.hid hkl
        have hown2 : Hid (∀ (w3 : World) (o : Obj), Below w2.heap.size w2 w3 → (w3.alloc o).ownsRow w.heap.size 202 1 (.slice sa r r) r (vs.take r)) := fun w3 o hb => (own_cutG (hst2.below hb).1).alloc o
        clear hrow hrow' HX0 HX1 hst1 hc1 hc2 hkF hkl hrow2
        obtain ⟨i0, hi0, hz0, hz1, hz2⟩ := info_parts info_tree
        have HI0 := Lib.hid hi0
        have HZ0 := Lib.hid hz0
        have HZ1 := Lib.hid hz1
        have HZ2 := Lib.hid hz2
        clear hi0 hz0 hz1 hz2
        have hi1 : (0 : Int) ≤ (r : Int) := by omega
        have HNE : Hid (some wr.heap.size ≠ (Value.slice sa r r).ownBlock) := fun e => by have := ((own_cutG hst.1).lt _ e.symm).2; omega
        have hi2 : (r : Int) ≤ (r : Int) := by omega
        have hwlt : wr.heap.size < w2.heap.size := World.block_lt_of_cell? w2 _ hx0
        have hws : w.heap.size ≤ w2.heap.size := by have := hbel.size; omega
        go_wp2_with fail
        go_region_held3 (fun w' => w'.cell? ⟨wr.heap.size, 0, none⟩ = some (.int .i64 x) ∧ w'.cell? ⟨wr.heap.size, 1, none⟩ = some (.int .i64 y)) (first | (refine ⟨?_, ?_⟩ <;> assumption) | go_keep | (refine ⟨?_, ?_⟩ <;> go_keep))
          (first
            | (go_at_call 206; refine (treeUnder_any (Av sa (r + 0) r) x y _ _ _ (vs.drop r) ((stackOf (ts.take k)).drop r) _ (by exact hokN.out) (by exact hrowF) HKL.out (by exact HKF.out)).mono ?_; rintro e w3 ⟨u, z, rfl, hIT, hb3⟩; have hb4 : Below w2.heap.size w2 w3 := below_drew hb3; have hsz3 : w2.heap.size ≤ w3.heap.size := hb4.size; have hy0 : w3.cell? ⟨wr.heap.size, 0, none⟩ = some (.int .i64 x) := (hb3.cell (by exact hwlt)).trans (by exact hx0); have hy1 : w3.cell? ⟨wr.heap.size, 1, none⟩ = some (.int .i64 y) := (hb3.cell (by exact hwlt)).trans (by exact hx1))
            | (refine step_append_lies _ (by rfl) _ _ _ (by rfl) w.heap.size 202 i0 _ 1 16 Tryz.underlying244 HI0.out HZ0.out HZ1.out HZ2.out rfl (by omega) (.slice sa r r) r (vs.take r) (by rfl) (by exact hown2.out w3 _ hb4) ⟨w3.heap.size, 0, none⟩ 1 1 [.iface u z] (by rfl) (by rfl) (World.news_of_block (cs := #[.iface u z]) (t := 202) (fr := (0, 0)) (heap_alloc_new w3 _)) (by simp [Value.oneCell']) (by omega) (by unfold maxLen; omega) (by omega) (by simp; omega) (w3.heap.size + 1) (by simp) ?_; intro g cap w4 hown4 hgrow hat hlt4; have hz0' : w4.cell? ⟨wr.heap.size, 0, none⟩ = some (.int .i64 x) := (hgrow.cell_far ⟨wr.heap.size, 0, none⟩ (by simp; omega) (HNE.out)).trans ((World.cell?_alloc_lt w3 _ _ (by simp; omega)).trans hy0); have hz1' : w4.cell? ⟨wr.heap.size, 1, none⟩ = some (.int .i64 y) := (hgrow.cell_far ⟨wr.heap.size, 1, none⟩ (by simp; omega) (HNE.out)).trans ((World.cell?_alloc_lt w3 _ _ (by simp; omega)).trans hy1)))
        have hst4 := stack_push hst2 hb4 hgrow hat hown4 hIT
        have hbel4 : Below w.heap.size w w4 := ((((hbel.alloc hbel.size _).trans (hb2.mono (by simp; have := hbel.size; omega))).trans (hb4.mono hws)).alloc (by omega) _).grown hgrow (by simp; omega) (fun g' hg' => ((own_cutG hst.1).lt g' hg').1)
        have HS4 : Hid (stackOf (ts.take (k + 1)) = (stackOf (ts.take k)).take r ++ [.node x y ((stackOf (ts.take k)).drop r)]) := by
          show _ = _
          rw [hS.out]
          unfold stepS
          simp only []
          rw [HQ.out, hst.2.1, Int.toNat_natCast, Nat.add_sub_cancel]
        clear hst2 hb4 hgrow hat hown4 hIT hst hy0 hy1 hz0' hz1' hx0 hx1
        go_wp2
        go_roundw
        case rel => exact ⟨k + 1, some ⟨g, 0, none⟩, r + 1, cap, vs.take r ++ [.iface u z], by omega, by omega, by go_num, rfl, by rw [HS4.out]; exact hst4, hbel4⟩
        case measure => simp [intOf]; omega
      · go_wp2_with fail
        refine (takes_any _ _).mono ?_
        rintro e w1 ⟨rfl, rfl⟩
        rw [HQ.out]
        go_wp2_with fail
        refine (clone_any _ _ _ _ (vs.drop r) _ hrow hifs (by omega)).mono ?_
        rintro e w2 ⟨ta, tc, rfl, hrow2, hb2⟩
        have hst2 := hst1.below hb2
        have hx0 : w2.cell? ⟨wr.heap.size, 0, none⟩ = some (.int .i64 x) := (hb2.cell (by simp)).trans HX0.out
        have hx1 : w2.cell? ⟨wr.heap.size, 1, none⟩ = some (.int .i64 y) := (hb2.cell (by simp)).trans HX1.out
        have hrowF : RowV w2 (Av sa (r + q) sc) ta q (vs.drop r) := hrow2.keep (fun b _ _ hF _ => ⟨rfl, fun e => by have := (hst.1.lt b e.symm).2; have := hF; simp at this; omega⟩)
        have hkF : ∀ i, i < q → IsTree w2.drew (Av sa (r + q) sc) ((vs.drop r).getD i .nilIface) (((stackOf (ts.take k)).drop r).getD i default) := fun i hi => by
          have := (hst2.2.2 (r + i) (by omega)).keep (w' := w2.drew) (F' := Av sa (r + q) sc) (fun _ _ _ hF _ => ⟨rfl, hF⟩)
          rw [List.getD_eq_getElem?_getD, List.getD_eq_getElem?_getD] at this ⊢
          rw [List.getElem?_drop, List.getElem?_drop]
          exact this
        have HKF := Lib.hid hkF
        have hkl : ((stackOf (ts.take k)).drop r).length = q := by rw [List.length_drop, hst2.2.1]; omega
        have HKL := Lib.hid hkl
        have hown2 : Hid (∀ (w3 : World) (o : Obj), Below w2.heap.size w2 w3 → (w3.alloc o).ownsRow w.heap.size 202 1 (.slice sa r sc) r (vs.take r)) := fun w3 o hb => (own_cutG (hst2.below hb).1).alloc o
        clear hrow HX0 HX1 hst1 hc1 hc2 hkF hkl hrow2
        obtain ⟨i0, hi0, hz0, hz1, hz2⟩ := info_parts info_tree
        have HI0 := Lib.hid hi0
        have HZ0 := Lib.hid hz0
        have HZ1 := Lib.hid hz1
        have HZ2 := Lib.hid hz2
        clear hi0 hz0 hz1 hz2
        have hi1 : (0 : Int) ≤ (r : Int) := by omega
        have HNE : Hid (some wr.heap.size ≠ (Value.slice sa r sc).ownBlock) := fun e => by have := ((own_cutG hst.1).lt _ e.symm).2; omega
        have hi2 : (r : Int) ≤ (sc : Int) := by omega
        have hwlt : wr.heap.size < w2.heap.size := World.block_lt_of_cell? w2 _ hx0
        have hws : w.heap.size ≤ w2.heap.size := by have := hbel.size; omega
        go_wp2_with fail
        go_region_held3 (fun w' => w'.cell? ⟨wr.heap.size, 0, none⟩ = some (.int .i64 x) ∧ w'.cell? ⟨wr.heap.size, 1, none⟩ = some (.int .i64 y)) (first | (refine ⟨?_, ?_⟩ <;> assumption) | go_keep | (refine ⟨?_, ?_⟩ <;> go_keep))
          (first
            | (go_at_call 206; refine (treeUnder_any (Av sa (r + q) sc) x y _ _ _ (vs.drop r) ((stackOf (ts.take k)).drop r) _ (by exact hokN.out) (by exact hrowF) HKL.out (by exact HKF.out)).mono ?_; rintro e w3 ⟨u, z, rfl, hIT, hb3⟩; have hb4 : Below w2.heap.size w2 w3 := below_drew hb3; have hsz3 : w2.heap.size ≤ w3.heap.size := hb4.size; have hy0 : w3.cell? ⟨wr.heap.size, 0, none⟩ = some (.int .i64 x) := (hb3.cell (by exact hwlt)).trans (by exact hx0); have hy1 : w3.cell? ⟨wr.heap.size, 1, none⟩ = some (.int .i64 y) := (hb3.cell (by exact hwlt)).trans (by exact hx1))
            | (refine step_append_lies _ (by rfl) _ _ _ (by rfl) w.heap.size 202 i0 _ 1 16 Tryz.underlying244 HI0.out HZ0.out HZ1.out HZ2.out rfl (by omega) (.slice sa r sc) r (vs.take r) (by rfl) (by exact hown2.out w3 _ hb4) ⟨w3.heap.size, 0, none⟩ 1 1 [.iface u z] (by rfl) (by rfl) (World.news_of_block (cs := #[.iface u z]) (t := 202) (fr := (0, 0)) (heap_alloc_new w3 _)) (by simp [Value.oneCell']) (by omega) (by unfold maxLen; omega) (by omega) (by simp; omega) (w3.heap.size + 1) (by simp) ?_; intro g cap w4 hown4 hgrow hat hlt4; have hz0' : w4.cell? ⟨wr.heap.size, 0, none⟩ = some (.int .i64 x) := (hgrow.cell_far ⟨wr.heap.size, 0, none⟩ (by simp; omega) (HNE.out)).trans ((World.cell?_alloc_lt w3 _ _ (by simp; omega)).trans hy0); have hz1' : w4.cell? ⟨wr.heap.size, 1, none⟩ = some (.int .i64 y) := (hgrow.cell_far ⟨wr.heap.size, 1, none⟩ (by simp; omega) (HNE.out)).trans ((World.cell?_alloc_lt w3 _ _ (by simp; omega)).trans hy1)))
        have hst4 := stack_push hst2 hb4 hgrow hat hown4 hIT
        have hbel4 : Below w.heap.size w w4 := ((((hbel.alloc hbel.size _).trans (hb2.mono (by simp; have := hbel.size; omega))).trans (hb4.mono hws)).alloc (by omega) _).grown hgrow (by simp; omega) (fun g' hg' => ((own_cutG hst.1).lt g' hg').1)
        have HS4 : Hid (stackOf (ts.take (k + 1)) = (stackOf (ts.take k)).take r ++ [.node x y ((stackOf (ts.take k)).drop r)]) := by
          show _ = _
          rw [hS.out]
          unfold stepS
          simp only []
          rw [HQ.out, hst.2.1, Int.toNat_natCast, Nat.add_sub_cancel]
        clear hst2 hb4 hgrow hat hown4 hIT hst hy0 hy1 hz0' hz1' hx0 hx1
        go_wp2
        go_roundw
        case rel => exact ⟨k + 1, some ⟨g, 0, none⟩, r + 1, cap, vs.take r ++ [.iface u z], by omega, by omega, by go_num, rfl, by rw [HS4.out]; exact hst4, hbel4⟩
        case measure => simp [intOf]; omega
    · obtain rfl : n = k := by omega
      have hS1 : stackOf (ts.take n) = [T] := by rw [List.take_of_length_le (by rw [HL.out]; exact Nat.le_refl _), hT.out]
      rw [hS1] at hst
      obtain ⟨ho, hm1, hk1⟩ := hst
      obtain rfl : m = 1 := by simpa using hm1.symm
      have hT0 := (hk1 0 (by omega)).keep (w' := wr) (F' := fun _ => True) (fun _ _ _ _ _ => ⟨rfl, trivial⟩)
      obtain ⟨b0, o0, e0, hb0, hc0⟩ := (rowV_own ho).at_ (k := 0) (by omega)
      subst e0
      obtain ⟨u, z, hv⟩ := hT0.iface
      rw [hv] at hc0 hT0
      have HT0 := Lib.hid hT0
      rw [Nat.add_zero] at hc0
      clear hk1 hS1 hm1 hv hT0 ho
      go_wp2
      go_ret
      exact ⟨u, z, rfl, HT0.out, hbel⟩
end Go.Proofs.YtbnpoliogldohaaGreat
/- The contracts of the program's small helpers of chapter 3. -/
namespace Go.Proofs.YtbnpoliogldohaaGreat
open Go.RowKit

def opensB (x : Int) : Bool := (x == 2 || x == 5) || x == 8
def secondB (x : Int) : Bool := x == 3 || x == 9
def takesB (op sec s : Int) : Bool := decide (sec < 0) && ((op == 2 && s == 3) || (op == 8 && s == 9))
def mayEndB (op sec : Int) : Bool := op != 8 || decide (0 ≤ sec)
/-- The program's head as a value. -/
def headV (wd tp : Int) (a1 a2 a3 a4 : Option Addr) (n1 n2 n3 n4 c1 c2 c3 c4 : Nat) : Value := .agg #[.int .i64 wd, .slice a1 n1 c1, .slice a2 n2 c2, .int .i64 tp, .slice a3 n3 c3, .slice a4 n4 c4]

theorem isWithin_any (x lo hi : Int) (w : World) :
    Calls Tryz.prog 88 #[.int .i64 x, .int .i64 lo, .int .i64 hi] w fun e w' => e = .returned (.bool (decide (lo ≤ x) && decide (x ≤ hi))) ∧ w = w' := by
  by_cases h1 : lo ≤ x
  · by_cases h2 : x ≤ hi
    · go_enter Tryz.func88, Tryz.ntmps88
      go_wp2
      go_ret
      exact ⟨ret_bool (by simp [h1, h2]), rfl⟩
    · go_enter Tryz.func88, Tryz.ntmps88
      go_wp2
      go_ret
      exact ⟨ret_bool (by rw [decide_eq_false (p := x ≤ hi) (by omega)]), rfl⟩
  · go_enter Tryz.func88, Tryz.ntmps88
    go_wp2
    go_ret
    exact ⟨ret_bool (by rw [decide_eq_false (p := lo ≤ x) (by omega), Bool.false_and]), rfl⟩
theorem isWithin_lat {w : World} (x lo hi : Int) {v : Bool} (hv : (decide (lo ≤ x) && decide (x ≤ hi)) = v) (p : Lat w) :
    Calls Tryz.prog 88 #[.int .i64 x, .int .i64 lo, .int .i64 hi] p.wd fun e w' => e = .returned (.bool v) ∧ Below p.wd.heap.size p.wd w' :=
  (isWithin_any x lo hi p.wd).mono fun _ _ ⟨he, hw⟩ => ⟨by rw [he, hv], by rw [← hw]; exact Below.refl _ _⟩
theorem opensBlock_any (x : Int) (w : World) : Calls Tryz.prog 176 #[.int .i64 x] w fun e w' => e = .returned (.bool (opensB x)) ∧ w = w' := by
  obtain ⟨R, HR⟩ : ∃ R, Hid (opensB x = R) := ⟨_, rfl⟩
  rw [HR.out]
  by_cases h : x = 2 ∨ x = 5 ∨ x = 8
  · have hR : R = true := by rw [← HR.out]; rcases h with rfl | rfl | rfl <;> rfl
    subst hR
    rcases h with rfl | rfl | rfl
    all_goals
      go_enter Tryz.func176, Tryz.ntmps176
      go_wp2
      go_ret
      exact ⟨rfl, rfl⟩
  · have k2 : (x == 2) = false := by simp; omega
    have k5 : (x == 5) = false := by simp; omega
    have k8 : (x == 8) = false := by simp; omega
    have hR : R = false := by rw [← HR.out]; simp [opensB, k2, k5, k8]
    subst hR
    go_enter Tryz.func176, Tryz.ntmps176
    go_wp2
    go_ret
    exact ⟨rfl, rfl⟩
theorem startsSecond_any (x : Int) (w : World) : Calls Tryz.prog 175 #[.int .i64 x] w fun e w' => e = .returned (.bool (secondB x)) ∧ w = w' := by
  obtain ⟨R, HR⟩ : ∃ R, Hid (secondB x = R) := ⟨_, rfl⟩
  rw [HR.out]
  by_cases h : x = 3 ∨ x = 9
  · have hR : R = true := by rw [← HR.out]; rcases h with rfl | rfl <;> rfl
    subst hR
    rcases h with rfl | rfl
    all_goals
      go_enter Tryz.func175, Tryz.ntmps175
      go_wp2
      go_ret
      exact ⟨rfl, rfl⟩
  · have k3 : (x == 3) = false := by simp; omega
    have k9 : (x == 9) = false := by simp; omega
    have hR : R = false := by rw [← HR.out]; simp [secondB, k3, k9]
    subst hR
    go_enter Tryz.func175, Tryz.ntmps175
    go_wp2
    go_ret
    exact ⟨rfl, rfl⟩
theorem takesLabel_any (x s y : Int) (w : World) : Calls Tryz.prog 212 #[.agg #[.int .i64 x, .int .i64 s], .int .i64 y] w fun e w' => e = .returned (.bool (takesB x s y)) ∧ Below w.heap.size w w' := by
  obtain ⟨R, HR⟩ : ∃ R, Hid (takesB x s y = R) := ⟨_, rfl⟩
  rw [HR.out]
  by_cases hs : 0 ≤ s
  · have hR : R = false := by rw [← HR.out, takesB, decide_eq_false (by omega)]; rfl
    subst hR
    go_enter Tryz.func212, Tryz.ntmps212
    go_wp2
    go_ret
    exact ⟨rfl, (Below.refl _ _).alloc (Nat.le_refl _) _⟩
  have hR : R = ((x == 2 && y == 3) || (x == 8 && y == 9)) := by rw [← HR.out, takesB, decide_eq_true (by omega)]; rfl
  have HR := Lib.hid hR
  clear hR
  by_cases h2 : x = 2
  · subst h2
    by_cases h3 : y = 3
    · subst h3
      have hR : R = true := HR.out
      subst hR
      go_enter Tryz.func212, Tryz.ntmps212
      go_wp2
      go_ret
      exact ⟨rfl, (Below.refl _ _).alloc (Nat.le_refl _) _⟩
    · have k3 : (y == 3) = false := by simpa using h3
      have hR : R = false := by rw [HR.out, k3]; rfl
      subst hR
      go_enter Tryz.func212, Tryz.ntmps212
      go_wp2
      go_ret
      exact ⟨rfl, (Below.refl _ _).alloc (Nat.le_refl _) _⟩
  have k2 : (x == 2) = false := by simpa using h2
  by_cases h8 : x = 8
  · subst h8
    by_cases h9 : y = 9
    · subst h9
      have hR : R = true := HR.out
      subst hR
      go_enter Tryz.func212, Tryz.ntmps212
      go_wp2
      go_ret
      exact ⟨rfl, (Below.refl _ _).alloc (Nat.le_refl _) _⟩
    · have k9 : (y == 9) = false := by simpa using h9
      have hR : R = false := by rw [HR.out, k9]; rfl
      subst hR
      go_enter Tryz.func212, Tryz.ntmps212
      go_wp2
      go_ret
      exact ⟨rfl, (Below.refl _ _).alloc (Nat.le_refl _) _⟩
  have k8 : (x == 8) = false := by simpa using h8
  have hR : R = false := by rw [HR.out, k2, k8]; rfl
  subst hR
  go_enter Tryz.func212, Tryz.ntmps212
  go_wp2
  go_ret
  exact ⟨rfl, (Below.refl _ _).alloc (Nat.le_refl _) _⟩
theorem mayEnd_any (x s : Int) (w : World) : Calls Tryz.prog 213 #[.agg #[.int .i64 x, .int .i64 s]] w fun e w' => e = .returned (.bool (mayEndB x s)) ∧ Below w.heap.size w w' := by
  obtain ⟨R, HR⟩ : ∃ R, Hid (mayEndB x s = R) := ⟨_, rfl⟩
  rw [HR.out]
  by_cases h8 : x = 8
  · subst h8
    by_cases hs : 0 ≤ s
    · have hR : R = true := by rw [← HR.out, mayEndB, decide_eq_true hs]; rfl
      subst hR
      go_enter Tryz.func213, Tryz.ntmps213
      go_wp2
      go_ret
      exact ⟨rfl, (Below.refl _ _).alloc (Nat.le_refl _) _⟩
    · have hR : R = false := by rw [← HR.out, mayEndB, decide_eq_false hs]; rfl
      subst hR
      go_enter Tryz.func213, Tryz.ntmps213
      go_wp2
      go_ret
      exact ⟨rfl, (Below.refl _ _).alloc (Nat.le_refl _) _⟩
  have k8 : (x != 8) = true := by simpa using h8
  have hR : R = true := by rw [← HR.out, mayEndB, k8]; rfl
  subst hR
  go_enter Tryz.func213, Tryz.ntmps213
  go_wp2
  go_ret
  exact ⟨rfl, (Below.refl _ _).alloc (Nat.le_refl _) _⟩
set_option maxHeartbeats 800000 in
theorem greatestValue_any (r : PRow) (W : Nat) (w : World) (hW : r.width = (W : Int)) (h8 : W ≤ 8) :
    Calls Tryz.prog 179 #[progV r] w fun e w' => e = .returned (.int .i64 (((2 ^ W : Nat) : Int) - 1)) ∧ Below w.heap.size w w' := by
  obtain ⟨wd, ⟨a1, n1, c1⟩, ⟨a2, n2, c2⟩, tp, ⟨a3, n3, c3⟩, ⟨a4, n4, c4⟩, rows⟩ := r
  simp only [] at hW
  subst hW
  show Calls Tryz.prog 179 #[.agg #[.int .i64 (W : Int), .slice a1 n1 c1, .slice a2 n2 c2, .int .i64 tp, .slice a3 n3 c3, .slice a4 n4 c4]] w _
  have hc : W = 0 ∨ W = 1 ∨ W = 2 ∨ W = 3 ∨ W = 4 ∨ W = 5 ∨ W = 6 ∨ W = 7 ∨ W = 8 := by omega
  rcases hc with rfl | rfl | rfl | rfl | rfl | rfl | rfl | rfl | rfl
  all_goals
    go_enter Tryz.func179, Tryz.ntmps179
    go_wp2
    go_ret
    exact ⟨rfl, (Below.refl _ _).alloc (Nat.le_refl _) _⟩
theorem firstTemp_any (r : PRow) (w : World) (h1 : r.lows.2.1 ≤ 1048576) (h2 : r.secrets.2.1 ≤ 1048576) :
    Calls Tryz.prog 141 #[progV r] w fun e w' => e = .returned (.int .i64 ((r.lows.2.1 : Int) + (r.secrets.2.1 : Int))) ∧ Below w.heap.size w w' := by
  obtain ⟨wd, ⟨a1, n1, c1⟩, ⟨a2, n2, c2⟩, tp, ⟨a3, n3, c3⟩, ⟨a4, n4, c4⟩, rows⟩ := r
  simp only [] at h1 h2
  show Calls Tryz.prog 141 #[.agg #[.int .i64 wd, .slice a1 n1 c1, .slice a2 n2 c2, .int .i64 tp, .slice a3 n3 c3, .slice a4 n4 c4]] w _
  go_enter Tryz.func141, Tryz.ntmps141
  go_wp2
  go_ret
  exact ⟨rfl, (Below.refl _ _).alloc (Nat.le_refl _) _⟩
end Go.Proofs.YtbnpoliogldohaaGreat
