/- Joined texts of this proof (TreeOf, Parts, First, SpecParts, NestMath, StepsMath), in build order. -/
import Derived.Test.YtjboghmcmlkpoaaGreatDoorJ13
import Derived.Lib.SliceRun
import Derived.Deep.RegionHeld3
import Derived.Deep.AppendLies
import Derived.Test.YtjboghmcmlkpoaaGreatDoorJ3
import Derived.Test.YtjboghmcmlkpoaaGreatDoorJ1
import Derived.Test.YtjboghmcmlkpoaaGreatDoorJ4
/- The contracts of slices.Clone at trees, of treeUnder and of treeOf: the tree of an expression. -/
namespace Go.Proofs.YtjboghmcmlkpoaaGreatDoor
open Go.RowKit

theorem info_tree : (Tryz.prog.info? 110).map (fun i => (i.zero, i.size, i.bytes)) = some (some .nilIface, 1, 16) := by kernel_rfl
theorem rowV_own {w : World} {B : Nat} {a : Option Addr} {n c : Nat} {vs : List Value} (h : w.ownsRow B 110 1 (.slice a n c) n vs) : RowV w (fun b => B ≤ b) a n vs := by
  have hl : vs.length = n := by have := h.1; omega
  refine ⟨hl, fun hp => ?_⟩
  rcases h.2 with ⟨_, h0⟩ | ⟨g, cap, cur, e, hB, hh, hnc, hcm, hcs, htk⟩
  · omega
  · have ea : a = some ⟨g, 0, none⟩ := by injection e
    subst ea
    refine ⟨g, 0, cur, (0, 0), rfl, hB, hh, fun i hi => ?_⟩
    have h1 : cur[i]? = cur.toList[i]? := by simp
    rw [Nat.zero_add, h1, ← List.getElem?_take_of_lt (show i < n * 1 by omega), htk, List.getD_eq_getElem?_getD, List.getElem?_eq_getElem (by omega)]
    rfl
def Ifaces (vs : List Value) : Prop := ∀ v ∈ vs, ∃ u x, v = .iface u x

set_option maxHeartbeats 400000 in
theorem clone_any (F : Nat → Prop) (a : Option Addr) (n c : Nat) (vs : List Value) (w : World) (h : RowV w F a n vs) (hv : Ifaces vs) (hn : n ≤ 3000) :
    Calls Tryz.prog 131 #[.slice a n c] w fun e w' => ∃ a' c', e = .returned (.slice a' n c') ∧ RowV w' (fun b => w.heap.size ≤ b) a' n vs ∧ Below w.heap.size w w' := by
  have qT : ∀ (w : World) (a : Option Addr) (n c n' c' : Nat), (binOp .eql 167 (.slice a n c) (.slice none n' c')).run Tryz.prog w = .ok (.bool a.isNone) w := fun w a n c n' c' => Lib.run_eql_slice_nil w _ _ a n c n' c' Tryz.underlying167
  cases a with
  | none =>
    have hn0 : n = 0 := by
      rcases Nat.eq_zero_or_pos n with h0 | h0
      · exact h0
      · obtain ⟨b, o, cur, fz, e, _⟩ := h.2 h0
        cases e
    subst hn0
    have hvs : vs = [] := List.eq_nil_of_length_eq_zero h.1
    subst hvs
    go_enter Tryz.func131, Tryz.ntmps131
    go_wp2
    go_ret
    exact ⟨none, 0, rfl, ⟨rfl, fun h => absurd h (by omega)⟩, Below.refl _ _⟩
  | some ad =>
    have hnews : ∀ (o : Obj) (j : Nat) (u : Value), vs[j]? = some u → (w.alloc o).cell? (ad.add j) = some u := by
      intro ob j u hj
      have hjl : j < vs.length := (List.getElem?_eq_some_iff.1 hj).1
      have hl := h.1
      obtain ⟨b, o, e, hb, hc⟩ := h.at_ (k := j) (by omega)
      injection e with e
      subst e
      rw [Go.WideShapes.add_plain, World.cell?_alloc_lt w ob _ hb, hc, ← hj, List.getD_eq_getElem?_getD, hj]
      rfl
    have HN := Lib.hid hnews
    clear hnews
    have hl := Lib.hid h.1
    go_enter Tryz.func131, Tryz.ntmps131
    go_wp2_with (at_builtin; refine wpList_pushG _ rfl _ _ 167 110 .nilIface 1 16 rfl Tryz.underlying167 info_tree rfl (by omega) w.heap.size _ 0 0 [] rfl (World.ownsRow_lit w #[] 0 (Nat.le_refl _) (by unfold maxLen; omega) rfl) ad n c vs rfl (by rw [hl.out]; omega) (HN.out _) (fun u hu => by obtain ⟨t, x, rfl⟩ := hv u hu; rfl) (by unfold maxLen; omega) (by omega) (by simp) ?_)
    intro a1 c1 w1 hown hgr
    go_wp2
    go_ret
    exact ⟨a1, c1, rfl, rowV_own hown, ((Below.refl _ _).alloc (Nat.le_refl _) _).grown hgr.1 (by simp) (fun k hk => by simp [Value.ownBlock] at hk; omega)⟩

set_option maxHeartbeats 800000 in
theorem treeUnder_any (F : Nat → Prop) (x y : Int) (a : Option Addr) (m c : Nat) (vs : List Value) (kids : List Tr) (w : World) (hok : (Tr.node x y kids).okT) (hrow : RowV w F a m vs) (hm : kids.length = m)
    (hkids : ∀ i, i < m → IsTree w F (vs.getD i .nilIface) (kids.getD i default)) :
    Calls Tryz.prog 132 #[.agg #[.int .i64 x, .int .i64 y], .slice a m c] w fun e w' => ∃ u z, e = .returned (.iface u z) ∧ IsTree w F (.iface u z) (.node x y kids) ∧ Below w.heap.size w w' := by
  simp only [Tr.okT] at hok
  obtain ⟨hok1, hok2, _⟩ := hok
  obtain ⟨ht0, _, _, hy⟩ := (tOkB_iff _).1 hok1
  simp only [] at ht0 hy
  have hx : x = 0 ∨ x = 1 ∨ x = 2 ∨ (3 ≤ x ∧ x ≤ 17) := by
    have := (takesI_neg x)
    rcases Int.lt_or_le x 0 with h' | h'
    · have := this.2 (.inl h'); omega
    · rcases Int.lt_or_le 17 x with h'' | h''
      · have := this.2 (.inr h''); omega
      · omega
  rcases hx with rfl | rfl | rfl | ⟨h3, h17⟩
  · have hk : kids = [] := List.eq_nil_of_length_eq_zero (by have : takesI 0 = 0 := rfl; omega)
    subst hk
    clear hok1 hok2 hm hkids hrow hy
    go_enter Tryz.func132, Tryz.ntmps132
    go_wp2
    go_ret
    exact ⟨_, _, rfl, .num y, (Below.refl _ _).alloc (Nat.le_refl _) _⟩
  · have hk : kids = [] := List.eq_nil_of_length_eq_zero (by have : takesI 1 = 0 := rfl; omega)
    subst hk
    clear hok1 hok2 hm hkids hrow hy
    go_enter Tryz.func132, Tryz.ntmps132
    go_wp2
    go_ret
    exact ⟨_, _, rfl, .var y, (Below.refl _ _).alloc (Nat.le_refl _) _⟩
  · have h1 : kids.length = 1 := by have : takesI 2 = 1 := rfl; omega
    obtain rfl : m = 1 := by omega
    match kids, h1 with
    | [T], _ =>
      obtain ⟨b, o, rfl, hb, hc⟩ := hrow.at_ (k := 0) (by omega)
      have hT := hkids 0 (by omega)
      obtain ⟨u, z, hv⟩ := hT.iface
      rw [hv] at hc hT
      have HT := Lib.hid hT
      rw [Nat.add_zero] at hc
      clear hok1 hok2 hm hkids hrow hy hv hT
      go_enter Tryz.func132, Tryz.ntmps132
      go_wp2
      go_quiet (fail)
      go_wp2
      go_ret
      exact ⟨_, _, rfl, .cell y _ T HT.out, below_dn ((Below.refl _ _).alloc (Nat.le_refl _) _) _⟩
  · have hy0 : y = 0 := by omega
    subst hy0
    have hm3 : m ≤ 3 := by have := takesI_range x; omega
    have HT := Lib.hid (IsTree.op (w := w) (F := F) x a m c vs kids h3 h17 hm3 hm hrow hkids)
    have n0 : (x == 0) = false := by simp; omega
    have n1 : (x == 1) = false := by simp; omega
    have n2 : (x == 2) = false := by simp; omega
    clear hok1 hok2 hm hkids hrow hy
    go_enter Tryz.func132, Tryz.ntmps132
    go_wp2
    go_ret
    exact ⟨_, _, rfl, HT.out, (Below.refl _ _).alloc (Nat.le_refl _) _⟩

/-- Not the block of this slice. -/
def Av (a : Option Addr) (n c : Nat) : Nat → Prop := fun b => some b ≠ (Value.slice a n c).ownBlock
/-- The stack: a row of the call's own that holds these trees, none of whose blocks is its own. -/
def Stack (w : World) (B : Nat) (a : Option Addr) (m c : Nat) (vs : List Value) (S : List Tr) : Prop :=
  w.ownsRow B 110 1 (.slice a m c) m vs ∧ S.length = m ∧ ∀ i, i < m → IsTree w (Av a m c) (vs.getD i .nilIface) (S.getD i default)
theorem Stack.below {w w' : World} {B : Nat} {a : Option Addr} {m c : Nat} {vs : List Value} {S : List Tr} (h : Stack w B a m c vs S) (hb : Below w.heap.size w w') : Stack w' B a m c vs S :=
  ⟨h.1.kept (row := none) ⟨hb.os, hb.tape, hb.output, hb.size, fun k hk _ => hb.block k hk⟩ (by cases a <;> simp [Value.ownBlock]), h.2.1, fun i hi => (h.2.2 i hi).keep (keeps_below hb)⟩
theorem own_capLe {w : World} {B : Nat} {e : TypeId} {size : Nat} {a : Option Addr} {n c : Nat} {xs : List Value} (h : w.ownsRow B e size (.slice a n c) n xs) : n ≤ c := by
  rcases h.2 with ⟨e1, h0⟩ | ⟨g, cap, cur, e1, hb, hg, hnc, _⟩
  · omega
  · injection e1 with e1 e2 e3
    omega
theorem Stack.len {w : World} {B : Nat} {a : Option Addr} {m c : Nat} {vs : List Value} {S : List Tr} (h : Stack w B a m c vs S) : vs.length = m := by have := h.1.1; omega
theorem Stack.ifaces {w : World} {B : Nat} {a : Option Addr} {m c : Nat} {vs : List Value} {S : List Tr} (h : Stack w B a m c vs S) : Ifaces vs := by
  intro v hv
  obtain ⟨i, hi, rfl⟩ := List.getElem_of_mem hv
  have hl := h.len
  have := (h.2.2 i (by omega)).iface
  rw [List.getD_eq_getElem?_getD, List.getElem?_eq_getElem hi] at this
  exact this

theorem own_cutG {w : World} {B : Nat} {e : TypeId} {a : Option Addr} {r q c : Nat} {xs : List Value} (h : w.ownsRow B e 1 (.slice a (r + q) c) (r + q) xs) : w.ownsRow B e 1 (.slice a r c) r (xs.take r) := by
  obtain ⟨h1, h2⟩ := h
  refine ⟨by simp; omega, ?_⟩
  rcases h2 with ⟨e1, h0⟩ | ⟨g, cap, cur, e1, hb, hg, hnc, hcm, hcs, ht⟩
  · have hr : r = 0 := by omega
    have hq : q = 0 := by omega
    subst hr hq
    exact .inl ⟨e1, rfl⟩
  · injection e1 with e1 e2 e3
    subst e1 e3
    refine .inr ⟨g, c, cur, rfl, hb, hg, by omega, hcm, hcs, ?_⟩
    rw [← ht, List.take_take, Nat.mul_one, Nat.mul_one, Nat.min_eq_left (by omega)]
theorem RowV.cut {w : World} {F : Nat → Prop} {a : Option Addr} {r q : Nat} {vs : List Value} (h : RowV w F a (r + q) vs) : RowV w F (a.map (·.add r)) q (vs.drop r) := by
  have hl := h.1
  refine ⟨by rw [List.length_drop]; omega, fun hp => ?_⟩
  obtain ⟨b, o, cur, fz, rfl, hF, hh, hc⟩ := h.2 (by omega)
  refine ⟨b, o + r, cur, fz, by simp [Go.WideShapes.add_plain], hF, hh, fun i hi => ?_⟩
  rw [Nat.add_assoc, hc (r + i) (by omega), List.getD_eq_getElem?_getD, List.getD_eq_getElem?_getD, List.getElem?_drop]

theorem own_block_len (a : Option Addr) (n c m d : Nat) : (Value.slice a n c).ownBlock = (Value.slice a m d).ownBlock := by cases a <;> rfl
theorem stack_push {w2 w3 w4 : World} {B : Nat} {sa : Option Addr} {r q sc : Nat} {vs : List Value} {S : List Tr} {o : Obj} {g cap : Nat} {v : Value} {T : Tr} (hst2 : Stack w2 B sa (r + q) sc vs S) (hb4 : Below w2.heap.size w2 w3)
    (hgrow : (w3.alloc o).grownBy w4 (Value.slice sa r sc).ownBlock) (hat : (Value.slice sa r sc).ownBlock = some g ∨ g = w3.heap.size + 1) (hown4 : w4.ownsRow B 110 1 (.slice (some ⟨g, 0, none⟩) (r + 1) cap) (r + 1) (vs.take r ++ [v]))
    (hIT : IsTree w2.drew (Av sa (r + q) sc) v T) : Stack w4 B (some ⟨g, 0, none⟩) (r + 1) cap (vs.take r ++ [v]) (S.take r ++ [T]) := by
  have hl := hst2.len
  have hk : Keeps w2 (Av sa (r + q) sc) w4 (Av (some ⟨g, 0, none⟩) (r + 1) cap) := by
    intro b cur fz hF hh
    have hb : b < w2.heap.size := (Array.getElem?_eq_some_iff.1 hh).1
    have hs := hb4.size
    have hne : some b ≠ (Value.slice sa r sc).ownBlock := by rw [own_block_len sa r sc (r + q) sc]; exact hF
    refine ⟨(hgrow.block b (by simp; omega) hne).trans ((Below.heap_alloc w3 o b (by omega)).trans (hb4.block b hb)), fun e => ?_⟩
    have e' : b = g := by simpa [Value.ownBlock] using e
    subst e'
    rcases hat with h1 | h1
    · exact hne h1.symm
    · omega
  have hSl := hst2.2.1
  refine ⟨hown4, by simp; omega, fun i hi => ?_⟩
  rcases Nat.lt_or_ge i r with h1 | h1
  · rw [List.getD_eq_getElem?_getD, List.getD_eq_getElem?_getD, List.getElem?_append_left (by simp; omega), List.getElem?_append_left (by simp; omega), List.getElem?_take_of_lt h1, List.getElem?_take_of_lt h1, ← List.getD_eq_getElem?_getD, ← List.getD_eq_getElem?_getD]
    exact (hst2.2.2 i (by omega)).keep hk
  · have : i = r := by omega
    subst this
    have e1 : (vs.take i ++ [v]).getD i .nilIface = v := by rw [List.getD_eq_getElem?_getD, List.getElem?_append_right (by simp; omega)]; simp [show i - min i vs.length = 0 by omega]
    have e2 : (S.take i ++ [T]).getD i default = T := by rw [List.getD_eq_getElem?_getD, List.getElem?_append_right (by simp; omega)]; simp [show i - min i S.length = 0 by omega]
    rw [e1, e2]
    exact hIT.keep (fun b cur fz hF hh => hk b cur fz hF hh)
theorem below_drew {B : Nat} {w w' : World} (h : Below B w.drew w') : Below B w w' := ⟨h.os, h.tape, h.output, h.size, h.block⟩

set_option maxRecDepth 100000 in
set_option maxHeartbeats 1600000 in
theorem treeOf_any (a : Option Addr) (n c : Nat) (ts : List Tm) (T : Tr) (w : World) (h : Terms w a n ts) (hn : n ≤ 3000) (hx : Hid (runD 0 ts = some 1)) (hT : Hid (stackOf ts = [T])) :
    Calls Tryz.prog 70 #[.slice a n c] w fun e w' => ∃ u z, e = .returned (.iface u z) ∧ IsTree w' (fun _ => True) (.iface u z) T ∧ Below w.heap.size w w' := by
  have HL := Lib.hid h.1
  go_enter Tryz.func70, Tryz.ntmps70
  go_wp2
  go_loopw [3, 10] (fun st i wr => ∃ (k : Nat) (sa : Option Addr) (m sc : Nat) (vs : List Value), k ≤ n ∧ m ≤ k ∧ i = .int .i64 k ∧ st = .slice sa m sc ∧ Stack wr w.heap.size sa m sc vs (stackOf (ts.take k)) ∧ Below w.heap.size w wr) (fun _ i _ => n - (intOf i).toNat)
  case atStart => exact ⟨0, none, 0, 0, [], Nat.zero_le _, Nat.le_refl _, rfl, rfl, ⟨World.ownsRow_nil _ _ _ _, rfl, fun i hi => absurd hi (by omega)⟩, Below.refl _ _⟩
  case round =>
    obtain ⟨k, sa, m, sc, vs, hk, hmk, rfl, rfl, hst, hbel⟩ := hrel
    by_cases hlt : k < n
    · obtain ⟨b, o, x, y, rfl, hb, hz, hin1, hin2, hc1, hc2⟩ := (h.below (Nat.le_refl _) hbel).at_ hlt
      obtain ⟨d, hd, hS1, hS2, hS3⟩ := stack_take hx.out k
      obtain ⟨ht1, ht2, ht3⟩ := runD_at hx.out (by rw [HL.out]; exact hlt) hd
      have hS := Lib.hid (stackOf_succ ts k (by rw [HL.out]; exact hlt))
      rw [hz.out] at ht1 ht2 hS
      have hm : (stackOf (ts.take k)).length = m := hst.2.1
      have hq0 := ((tOkB_iff _).1 ht1).1
      simp only [] at ht2 hq0
      obtain ⟨q, HQ⟩ : ∃ q : Nat, Hid (takesI x = q) := ⟨(takesI x).toNat, by show _ = _; omega⟩
      have hqm : q ≤ m := by have := HQ.out; omega
      have hq3 : q ≤ 3 := by have := HQ.out; have := takesI_range x; omega
      clear ht3 hd hS1 hS2 hm hq0 ht2
      obtain ⟨r, rfl⟩ : ∃ r, m = r + q := ⟨m - q, by omega⟩
      have hst1 := hst.below ((Below.refl _ _).alloc (Nat.le_refl _) (.cells #[.int .i64 x, .int .i64 y] 105))
      have hle := own_capLe hst.1
      have hbx0 : (wr.alloc (.cells #[.int .i64 x, .int .i64 y] 105)).cell? ⟨wr.heap.size, 0, none⟩ = some (.int .i64 x) := by simp
      have hbx1 : (wr.alloc (.cells #[.int .i64 x, .int .i64 y] 105)).cell? ⟨wr.heap.size, 1, none⟩ = some (.int .i64 y) := by simp
      have hrow := (rowV_own hst1.1).cut
      have hokN : Hid ((Tr.node x y ((stackOf (ts.take k)).drop r)).okT) := by
        show Tr.okT _
        simp only [Tr.okT]
        refine ⟨ht1, ?_, ?_⟩
        · rw [HQ.out, List.length_drop, hst.2.1]; omega
        · exact (oks_iff _).2 (fun t ht => (oks_iff _).1 hS3 t (List.mem_of_mem_drop ht))
      have hifs : Ifaces (vs.drop r) := fun v hv => hst.ifaces v (List.mem_of_mem_drop hv)
      have HX0 := Lib.hid hbx0
      have HX1 := Lib.hid hbx1
      clear hbx0 hbx1
      by_cases hcap : r = sc
      · subst hcap
        obtain rfl : q = 0 := by omega
        have hrow' : RowV (wr.alloc (.cells #[.int .i64 x, .int .i64 y] 105)) (fun _ => True) sa 0 (vs.drop r) := ⟨hrow.1, fun h => absurd h (by omega)⟩
        go_wp2_with fail
        refine (takes_any _ _).mono ?_
        rintro e w1 ⟨rfl, rfl⟩
        rw [HQ.out]
        go_wp2_with fail
        refine (clone_any _ _ _ _ (vs.drop r) _ hrow' hifs (by omega)).mono ?_
        rintro e w2 ⟨ta, tc, rfl, hrow2, hb2⟩
        have hst2 := hst1.below hb2
        have hx0 : w2.cell? ⟨wr.heap.size, 0, none⟩ = some (.int .i64 x) := (hb2.cell (by simp)).trans HX0.out
        have hx1 : w2.cell? ⟨wr.heap.size, 1, none⟩ = some (.int .i64 y) := (hb2.cell (by simp)).trans HX1.out
        have hrowF : RowV w2 (Av sa (r + 0) r) ta 0 (vs.drop r) := hrow2.keep (fun b _ _ hF _ => ⟨rfl, fun e => by have := (hst.1.lt b e.symm).2; have := hF; simp at this; omega⟩)
        have hkF : ∀ i, i < 0 → IsTree w2.drew (Av sa (r + 0) r) ((vs.drop r).getD i .nilIface) (((stackOf (ts.take k)).drop r).getD i default) := fun i hi => by
          have := (hst2.2.2 (r + i) (by omega)).keep (w' := w2.drew) (F' := Av sa (r + 0) r) (fun _ _ _ hF _ => ⟨rfl, hF⟩)
          rw [List.getD_eq_getElem?_getD, List.getD_eq_getElem?_getD] at this ⊢
          rw [List.getElem?_drop, List.getElem?_drop]
          exact this
        have HKF := Lib.hid hkF
        have hkl : ((stackOf (ts.take k)).drop r).length = 0 := by rw [List.length_drop, hst2.2.1]; omega
        have HKL := Lib.hid hkl
        have hown2 : Hid (∀ (w3 : World) (o : Obj), Below w2.heap.size w2 w3 → (w3.alloc o).ownsRow w.heap.size 110 1 (.slice sa r r) r (vs.take r)) := fun w3 o hb => (own_cutG (hst2.below hb).1).alloc o
        clear hrow hrow' HX0 HX1 hst1 hc1 hc2 hkF hkl hrow2
        obtain ⟨i0, hi0, hz0, hz1, hz2⟩ := info_parts info_tree
        have HI0 := Lib.hid hi0
        have HZ0 := Lib.hid hz0
        have HZ1 := Lib.hid hz1
        have HZ2 := Lib.hid hz2
        clear hi0 hz0 hz1 hz2
        have hi1 : (0 : Int) ≤ (r : Int) := by omega
        have HNE : Hid (some wr.heap.size ≠ (Value.slice sa r r).ownBlock) := fun e => by have := ((own_cutG hst.1).lt _ e.symm).2; omega
        have hi2 : (r : Int) ≤ (r : Int) := by omega
        have hwlt : wr.heap.size < w2.heap.size := World.block_lt_of_cell? w2 _ hx0
        have hws : w.heap.size ≤ w2.heap.size := by have := hbel.size; omega
        go_wp2_with fail
        go_region_held3 (fun w' => w'.cell? ⟨wr.heap.size, 0, none⟩ = some (.int .i64 x) ∧ w'.cell? ⟨wr.heap.size, 1, none⟩ = some (.int .i64 y)) (first | (refine ⟨?_, ?_⟩ <;> assumption) | go_keep | (refine ⟨?_, ?_⟩ <;> go_keep))
          (first
            | (go_at_call 132; refine (treeUnder_any (Av sa (r + 0) r) x y _ _ _ (vs.drop r) ((stackOf (ts.take k)).drop r) _ (by exact hokN.out) (by exact hrowF) HKL.out (by exact HKF.out)).mono ?_; rintro e w3 ⟨u, z, rfl, hIT, hb3⟩; have hb4 : Below w2.heap.size w2 w3 := below_drew hb3; have hsz3 : w2.heap.size ≤ w3.heap.size := hb4.size; have hy0 : w3.cell? ⟨wr.heap.size, 0, none⟩ = some (.int .i64 x) := (hb3.cell (by exact hwlt)).trans (by exact hx0); have hy1 : w3.cell? ⟨wr.heap.size, 1, none⟩ = some (.int .i64 y) := (hb3.cell (by exact hwlt)).trans (by exact hx1))
            | (refine step_append_lies _ (by rfl) _ _ _ (by rfl) w.heap.size 110 i0 _ 1 16 Tryz.underlying167 HI0.out HZ0.out HZ1.out HZ2.out rfl (by omega) (.slice sa r r) r (vs.take r) (by rfl) (by exact hown2.out w3 _ hb4) ⟨w3.heap.size, 0, none⟩ 1 1 [.iface u z] (by rfl) (by rfl) (World.news_of_block (cs := #[.iface u z]) (t := 110) (fr := (0, 0)) (heap_alloc_new w3 _)) (by simp [Value.oneCell']) (by omega) (by unfold maxLen; omega) (by omega) (by simp; omega) (w3.heap.size + 1) (by simp) ?_; intro g cap w4 hown4 hgrow hat hlt4; have hz0' : w4.cell? ⟨wr.heap.size, 0, none⟩ = some (.int .i64 x) := (hgrow.cell_far ⟨wr.heap.size, 0, none⟩ (by simp; omega) (HNE.out)).trans ((World.cell?_alloc_lt w3 _ _ (by simp; omega)).trans hy0); have hz1' : w4.cell? ⟨wr.heap.size, 1, none⟩ = some (.int .i64 y) := (hgrow.cell_far ⟨wr.heap.size, 1, none⟩ (by simp; omega) (HNE.out)).trans ((World.cell?_alloc_lt w3 _ _ (by simp; omega)).trans hy1)))
        have hst4 := stack_push hst2 hb4 hgrow hat hown4 hIT
        have hbel4 : Below w.heap.size w w4 := ((((hbel.alloc hbel.size _).trans (hb2.mono (by simp; have := hbel.size; omega))).trans (hb4.mono hws)).alloc (by omega) _).grown hgrow (by simp; omega) (fun g' hg' => ((own_cutG hst.1).lt g' hg').1)
        have HS4 : Hid (stackOf (ts.take (k + 1)) = (stackOf (ts.take k)).take r ++ [.node x y ((stackOf (ts.take k)).drop r)]) := by
          show _ = _
          rw [hS.out]
          unfold stepS
          simp only []
          rw [HQ.out, hst.2.1, Int.toNat_natCast, Nat.add_sub_cancel]
        clear hst2 hb4 hgrow hat hown4 hIT hst hy0 hy1 hz0' hz1' hx0 hx1
        go_wp2
        go_roundw
        case rel => exact ⟨k + 1, some ⟨g, 0, none⟩, r + 1, cap, vs.take r ++ [.iface u z], by omega, by omega, by go_num, rfl, by rw [HS4.out]; exact hst4, hbel4⟩
        case measure => simp [intOf]; omega
      · go_wp2_with fail
        refine (takes_any _ _).mono ?_
        rintro e w1 ⟨rfl, rfl⟩
        rw [HQ.out]
        go_wp2_with fail
        refine (clone_any _ _ _ _ (vs.drop r) _ hrow hifs (by omega)).mono ?_
        rintro e w2 ⟨ta, tc, rfl, hrow2, hb2⟩
        have hst2 := hst1.below hb2
        have hx0 : w2.cell? ⟨wr.heap.size, 0, none⟩ = some (.int .i64 x) := (hb2.cell (by simp)).trans HX0.out
        have hx1 : w2.cell? ⟨wr.heap.size, 1, none⟩ = some (.int .i64 y) := (hb2.cell (by simp)).trans HX1.out
        have hrowF : RowV w2 (Av sa (r + q) sc) ta q (vs.drop r) := hrow2.keep (fun b _ _ hF _ => ⟨rfl, fun e => by have := (hst.1.lt b e.symm).2; have := hF; simp at this; omega⟩)
        have hkF : ∀ i, i < q → IsTree w2.drew (Av sa (r + q) sc) ((vs.drop r).getD i .nilIface) (((stackOf (ts.take k)).drop r).getD i default) := fun i hi => by
          have := (hst2.2.2 (r + i) (by omega)).keep (w' := w2.drew) (F' := Av sa (r + q) sc) (fun _ _ _ hF _ => ⟨rfl, hF⟩)
          rw [List.getD_eq_getElem?_getD, List.getD_eq_getElem?_getD] at this ⊢
          rw [List.getElem?_drop, List.getElem?_drop]
          exact this
        have HKF := Lib.hid hkF
        have hkl : ((stackOf (ts.take k)).drop r).length = q := by rw [List.length_drop, hst2.2.1]; omega
        have HKL := Lib.hid hkl
        have hown2 : Hid (∀ (w3 : World) (o : Obj), Below w2.heap.size w2 w3 → (w3.alloc o).ownsRow w.heap.size 110 1 (.slice sa r sc) r (vs.take r)) := fun w3 o hb => (own_cutG (hst2.below hb).1).alloc o
        clear hrow HX0 HX1 hst1 hc1 hc2 hkF hkl hrow2
        obtain ⟨i0, hi0, hz0, hz1, hz2⟩ := info_parts info_tree
        have HI0 := Lib.hid hi0
        have HZ0 := Lib.hid hz0
        have HZ1 := Lib.hid hz1
        have HZ2 := Lib.hid hz2
        clear hi0 hz0 hz1 hz2
        have hi1 : (0 : Int) ≤ (r : Int) := by omega
        have HNE : Hid (some wr.heap.size ≠ (Value.slice sa r sc).ownBlock) := fun e => by have := ((own_cutG hst.1).lt _ e.symm).2; omega
        have hi2 : (r : Int) ≤ (sc : Int) := by omega
        have hwlt : wr.heap.size < w2.heap.size := World.block_lt_of_cell? w2 _ hx0
        have hws : w.heap.size ≤ w2.heap.size := by have := hbel.size; omega
        go_wp2_with fail
        go_region_held3 (fun w' => w'.cell? ⟨wr.heap.size, 0, none⟩ = some (.int .i64 x) ∧ w'.cell? ⟨wr.heap.size, 1, none⟩ = some (.int .i64 y)) (first | (refine ⟨?_, ?_⟩ <;> assumption) | go_keep | (refine ⟨?_, ?_⟩ <;> go_keep))
          (first
            | (go_at_call 132; refine (treeUnder_any (Av sa (r + q) sc) x y _ _ _ (vs.drop r) ((stackOf (ts.take k)).drop r) _ (by exact hokN.out) (by exact hrowF) HKL.out (by exact HKF.out)).mono ?_; rintro e w3 ⟨u, z, rfl, hIT, hb3⟩; have hb4 : Below w2.heap.size w2 w3 := below_drew hb3; have hsz3 : w2.heap.size ≤ w3.heap.size := hb4.size; have hy0 : w3.cell? ⟨wr.heap.size, 0, none⟩ = some (.int .i64 x) := (hb3.cell (by exact hwlt)).trans (by exact hx0); have hy1 : w3.cell? ⟨wr.heap.size, 1, none⟩ = some (.int .i64 y) := (hb3.cell (by exact hwlt)).trans (by exact hx1))
            | (refine step_append_lies _ (by rfl) _ _ _ (by rfl) w.heap.size 110 i0 _ 1 16 Tryz.underlying167 HI0.out HZ0.out HZ1.out HZ2.out rfl (by omega) (.slice sa r sc) r (vs.take r) (by rfl) (by exact hown2.out w3 _ hb4) ⟨w3.heap.size, 0, none⟩ 1 1 [.iface u z] (by rfl) (by rfl) (World.news_of_block (cs := #[.iface u z]) (t := 110) (fr := (0, 0)) (heap_alloc_new w3 _)) (by simp [Value.oneCell']) (by omega) (by unfold maxLen; omega) (by omega) (by simp; omega) (w3.heap.size + 1) (by simp) ?_; intro g cap w4 hown4 hgrow hat hlt4; have hz0' : w4.cell? ⟨wr.heap.size, 0, none⟩ = some (.int .i64 x) := (hgrow.cell_far ⟨wr.heap.size, 0, none⟩ (by simp; omega) (HNE.out)).trans ((World.cell?_alloc_lt w3 _ _ (by simp; omega)).trans hy0); have hz1' : w4.cell? ⟨wr.heap.size, 1, none⟩ = some (.int .i64 y) := (hgrow.cell_far ⟨wr.heap.size, 1, none⟩ (by simp; omega) (HNE.out)).trans ((World.cell?_alloc_lt w3 _ _ (by simp; omega)).trans hy1)))
        have hst4 := stack_push hst2 hb4 hgrow hat hown4 hIT
        have hbel4 : Below w.heap.size w w4 := ((((hbel.alloc hbel.size _).trans (hb2.mono (by simp; have := hbel.size; omega))).trans (hb4.mono hws)).alloc (by omega) _).grown hgrow (by simp; omega) (fun g' hg' => ((own_cutG hst.1).lt g' hg').1)
        have HS4 : Hid (stackOf (ts.take (k + 1)) = (stackOf (ts.take k)).take r ++ [.node x y ((stackOf (ts.take k)).drop r)]) := by
          show _ = _
          rw [hS.out]
          unfold stepS
          simp only []
          rw [HQ.out, hst.2.1, Int.toNat_natCast, Nat.add_sub_cancel]
        clear hst2 hb4 hgrow hat hown4 hIT hst hy0 hy1 hz0' hz1' hx0 hx1
        go_wp2
        go_roundw
        case rel => exact ⟨k + 1, some ⟨g, 0, none⟩, r + 1, cap, vs.take r ++ [.iface u z], by omega, by omega, by go_num, rfl, by rw [HS4.out]; exact hst4, hbel4⟩
        case measure => simp [intOf]; omega
    · obtain rfl : n = k := by omega
      have hS1 : stackOf (ts.take n) = [T] := by rw [List.take_of_length_le (by rw [HL.out]; exact Nat.le_refl _), hT.out]
      rw [hS1] at hst
      obtain ⟨ho, hm1, hk1⟩ := hst
      obtain rfl : m = 1 := by simpa using hm1.symm
      have hT0 := (hk1 0 (by omega)).keep (w' := wr) (F' := fun _ => True) (fun _ _ _ _ _ => ⟨rfl, trivial⟩)
      obtain ⟨b0, o0, e0, hb0, hc0⟩ := (rowV_own ho).at_ (k := 0) (by omega)
      subst e0
      obtain ⟨u, z, hv⟩ := hT0.iface
      rw [hv] at hc0 hT0
      have HT0 := Lib.hid hT0
      rw [Nat.add_zero] at hc0
      clear hk1 hS1 hm1 hv hT0 ho
      go_wp2
      go_ret
      exact ⟨u, z, rfl, HT0.out, hbel⟩
end Go.Proofs.YtjboghmcmlkpoaaGreatDoor
/- The contract of the program's PartsOf: the Terms of each tree under the last one, each in memory of its own. -/
namespace Go.Proofs.YtjboghmcmlkpoaaGreatDoor
open Go.RowKit

/-- What PartsOf answers. -/
def partsL (ts : List Tm) : List (List Tm) := if expB ts = true then (match stackOf ts with | [.node _ _ kids] => kids.map Tr.flat | _ => []) else []
theorem partsL_no {ts : List Tm} (h : expB ts = false) : partsL ts = [] := by unfold partsL; rw [h]; rfl
theorem partsL_yes {ts : List Tm} {op n : Int} {kids : List Tr} (h : expB ts = true) (hs : stackOf ts = [.node op n kids]) : partsL ts = kids.map Tr.flat := by unfold partsL; rw [if_pos h, hs]
theorem Keeps.trans {w w1 w2 : World} {F F1 F2 : Nat → Prop} (h : Keeps w F w1 F1) (k : Keeps w1 F1 w2 F2) : Keeps w F w2 F2 := fun b cur fz hF hh => by
  obtain ⟨e1, f1⟩ := h b cur fz hF hh
  obtain ⟨e2, f2⟩ := k b cur fz f1 (e1.trans hh)
  exact ⟨e2.trans e1, f2⟩
theorem keeps_refl (w : World) (F : Nat → Prop) : Keeps w F w F := fun _ _ _ hF _ => ⟨rfl, hF⟩
theorem map_flat_succ (kids : List Tr) (k : Nat) (h : k < kids.length) : (kids.take (k + 1)).map Tr.flat = (kids.take k).map Tr.flat ++ [(kids.getD k default).flat] := by
  rw [List.take_succ_eq_append_getElem h, List.map_append, List.getD_eq_getElem?_getD, List.getElem?_eq_getElem h]; rfl

end Go.Proofs.YtjboghmcmlkpoaaGreatDoor
/- The contracts of the two functions FirstOf (the program's and the model's), and of the model's l2First. -/
namespace Go.Proofs.YtjboghmcmlkpoaaGreatDoor
open Go.RowKit

theorem scan_succ (ts : List Tm) (i : Nat) (need : Int) : scan ts (i + 1) need = if need - 1 + takesI (tmAt ts i).1 = 0 then i else scan ts i (need - 1 + takesI (tmAt ts i).1) := rfl

set_option maxHeartbeats 800000 in
theorem l2First_any (a : Option Addr) (n c : Nat) (ts : List Tm) (w : World) (h : Terms w a n ts) (at_ : Int) (h0 : 0 ≤ at_) (h1 : at_ < n) (q : Nat) (hq : Hid (scan ts (at_.toNat + 1) 1 = q)) :
    Calls Tryz.prog 180 #[.slice a n c, .int .i64 at_] w fun e w' => e = .returned (.int .i64 q) ∧ Below w.heap.size w w' := by
  obtain ⟨m, rfl⟩ := Int.eq_ofNat_of_zero_le h0
  rw [Int.toNat_natCast] at hq
  have hm : m < n := by omega
  have HL := Lib.hid h.1
  have hbd := h.2.1
  clear h0 h1
  go_enter Tryz.func180, Tryz.ntmps180
  go_wp2
  go_loopw [5, 6] (fun l i wr => ∃ (k : Nat) (d : Int), k ≤ m + 1 ∧ i = .int .i64 ((k : Int) - 1) ∧ l = .int .i64 d ∧ -4194304 ≤ d - (k : Int) * 3 ∧ d ≤ 1 + (m + 1 - (k : Int)) * 2 ∧ 1 - (m + 1 - (k : Int)) * 2 ≤ d ∧ Hid (scan ts k d = q) ∧ Below w.heap.size w wr) (fun _ i _ => (intOf i + 1).toNat)
  case atStart => exact ⟨m + 1, 1, Nat.le_refl _, by go_num, rfl, by omega, by omega, by omega, hq, Below.refl _ _⟩
  case round =>
    obtain ⟨k, d, hk, rfl, rfl, hd0, hd1, hd2, hr, hbel⟩ := hrel
    by_cases hp : 0 < k
    · obtain ⟨j, rfl⟩ : ∃ j, k = j + 1 := ⟨k - 1, by omega⟩
      rw [show (((j + 1 : Nat) : Int) - 1) = (j : Int) by omega]
      obtain ⟨b, o, x, y, rfl, hb, hz, hin1, hin2, hc1, hc2⟩ := (h.below (Nat.le_refl _) hbel).at_ (k := j) (by omega)
      obtain ⟨t, HT⟩ : ∃ t, Hid (takesI x = t) := ⟨_, rfl⟩
      have ht := takesI_range x
      rw [HT.out] at ht
      obtain ⟨ht0, ht1⟩ := ht
      have HS : Hid ((if d - 1 + t = 0 then j else scan ts j (d - 1 + t)) = q) := by
        show _ = _
        have := hr.out
        rw [scan_succ, hz.out] at this
        rw [← HT.out]
        exact this
      clear hr
      go_wp2_with fail
      refine (specTakes_any _ _).mono ?_
      rintro e w1 ⟨rfl, hb1⟩
      have ht1' : Below w.heap.size w w1 := hbel.trans (hb1.mono hbel.size)
      rw [HT.out]
      clear hb1 hbel hc1 hc2
      by_cases hz0 : d - 1 + t = 0
      · have hbb : (d - 1 + t == 0) = true := by simpa using hz0
        have hqj : j = q := by have := HS.out; rwa [if_pos hz0] at this
        have HQJ := Lib.hid hqj
        clear hqj
        have hz0' := Lib.hid hz0
        clear hz0
        go_wp2
        go_ret
        exact ⟨ret_int (by rw [HQJ.out]), ht1'⟩
      · have hbb : (d - 1 + t == 0) = false := by simpa using hz0
        have HS2 : Hid (scan ts j (d - 1 + t) = q) := by show _ = _; have := HS.out; rwa [if_neg hz0] at this
        go_wp2
        go_roundw
        case rel => exact ⟨j, d - 1 + t, by omega, by go_num, rfl, by omega, by omega, by omega, HS2, ht1'⟩
        case measure => simp [intOf]
    · have hk0 : k = 0 := by omega
      subst hk0
      have hq0 : 0 = q := hr.out
      subst hq0
      go_wp2
      go_ret
      exact ⟨rfl, hbel⟩

theorem firstI_yes {ts : List Tm} {at_ : Int} (h : expB ts = true) (h0 : 0 ≤ at_) (h1 : at_ < ts.length) : firstI ts at_ = (scan ts (at_.toNat + 1) 1 : Nat) := by
  unfold firstI; rw [if_pos ⟨h, h0, h1⟩]
theorem firstI_no {ts : List Tm} {at_ : Int} (h : expB ts = false ∨ at_ < 0 ∨ (ts.length : Int) ≤ at_) : firstI ts at_ = -1 := by
  unfold firstI; rw [if_neg]; rintro ⟨a, b, c⟩; rcases h with h | h | h
  · rw [h] at a; cases a
  · omega
  · omega

/-- What is needed at a place, told by what is left ahead of it and behind. -/
def NeedIs (ts : List Tm) (m k : Nat) (wanted : Int) : Prop := ∃ dk dm : Int, runD 0 (ts.take k) = some dk ∧ runD 0 (ts.take (m + 1)) = some dm ∧ wanted = dk - dm + 1
theorem NeedIs.start {ts : List Tm} {m : Nat} {x : Int} (h : runD 0 ts = some x) (hm : m < ts.length) : NeedIs ts m m (takesI (tmAt ts m).1) := by
  obtain ⟨d, hd, _⟩ := runD_take h m
  obtain ⟨_, _, h3⟩ := runD_at h hm hd
  exact ⟨d, _, hd, h3, by omega⟩
theorem NeedIs.pred {ts : List Tm} {m k : Nat} {x wanted : Int} (h : runD 0 ts = some x) (hk : k < ts.length) (hn : NeedIs ts m (k + 1) wanted) : NeedIs ts m k (wanted + (takesI (tmAt ts k).1 - 1)) := by
  obtain ⟨dk, dm, h1, h2, h3⟩ := hn
  obtain ⟨d, hd, _⟩ := runD_take h k
  obtain ⟨_, _, h4⟩ := runD_at h hk hd
  rw [h4] at h1
  injection h1 with h1
  exact ⟨d, dm, hd, h2, by omega⟩
theorem NeedIs.zero {ts : List Tm} {m : Nat} {wanted : Int} (hm : m < ts.length) (hn : NeedIs ts m 0 wanted) : wanted ≤ 0 := by
  obtain ⟨dk, dm, h1, h2, h3⟩ := hn
  have e : dk = 0 := by rw [List.take_zero] at h1; simp only [runD] at h1; injection h1 with h1; omega
  have := runD_pos h2 (Int.le_refl _) (by rw [List.length_take]; omega)
  omega

end Go.Proofs.YtjboghmcmlkpoaaGreatDoor
/- The contract of the model's PartsOf, and of its l2Copy. -/
namespace Go.Proofs.YtjboghmcmlkpoaaGreatDoor
open Go.RowKit

set_option maxHeartbeats 400000 in
theorem l2Copy_any (b o n c : Nat) (ts : List Tm) (w : World) (h : Terms w (some ⟨b, o, none⟩) n ts) (hb : b < w.heap.size) :
    Calls Tryz.prog 181 #[.slice (some ⟨b, o, none⟩) n c] w (MadeT w ts) := by
  have HL := Lib.hid h.1
  have hbd := h.2.1
  have HN : Hid (∀ (ob : Obj) j u, (flatV ts)[j]? = some u → (w.alloc ob).cell? ((⟨b, o, none⟩ : Addr).add j) = some u) := fun ob j u hj => by
    have := terms_news h j u hj
    rw [Go.WideShapes.add_plain] at this ⊢
    rw [World.cell?_alloc_lt w ob _ hb]; exact this
  go_enter Tryz.func181, Tryz.ntmps181
  go_wp2_with (at_builtin; refine wpList_pushG _ rfl _ _ 41 105 (.agg #[.int .i64 0, .int .i64 0]) 2 16 rfl Tryz.underlying41 info_term rfl (by omega) w.heap.size _ 0 0 [] rfl (own_emptyT w _ (Nat.le_refl _)) ⟨b, o, none⟩ n c (flatV ts) rfl (by rw [flatV_len, HL.out]) (HN.out _) (flatV_one ts) (by unfold maxLen; omega) (by omega) (by simp) ?_)
  intro a1 c1 w1 hown hgr
  have hb1 : Below w.heap.size w w1 := ((Below.refl _ _).alloc (Nat.le_refl _) _).grown hgr.1 (by simp) (fun k hk => by simp [Value.ownBlock] at hk; omega)
  have hot : OwnT w1 w.heap.size a1 n c1 ts := ⟨by simpa using hown, hbd, h.2.2.1⟩
  clear hown hgr
  go_wp2
  go_ret
  exact ⟨a1, n, c1, rfl, hot, hb1⟩

/-- A part of a slice of Terms. -/
theorem Terms.part {w : World} {b o n : Nat} {ts p t q : List Tm} (h : Terms w (some ⟨b, o, none⟩) n ts) (e : ts = p ++ (t ++ q)) : Terms w (some ⟨b, o + p.length * 2, none⟩) t.length t := by
  obtain ⟨hl, hn, hin, hc⟩ := h
  have hlen : ts.length = p.length + (t.length + q.length) := by rw [e]; simp
  refine ⟨rfl, by omega, fun x hx => hin x (by rw [e]; simp [hx]), fun hp => ?_⟩
  obtain ⟨b', o', ea, hb, hcell⟩ := hc (by omega)
  injection ea with ea
  injection ea with e1 e2
  subst e1 e2
  refine ⟨b, _, rfl, hb, fun i hi => ?_⟩
  have := hcell (p.length + i) (by omega)
  have et : tmAt ts (p.length + i) = tmAt t i := by rw [e, tmAt_append_right, tmAt_append_left hi]
  rw [et, show o + (p.length + i) * 2 = o + p.length * 2 + i * 2 by omega] at this
  exact this

theorem ownSS_cons {w0 w w' : World} {B : Nat} {a : Option Addr} {n c : Nat} {rs : List Sl} {tss : List (List Tm)} {o : Obj} {a1 : Option Addr} {c1 : Nat} {r : Sl} {ts : List Tm}
    (h0 : OwnSS w0 B a n c rs tss) (hb : Below w0.heap.size w0 w) (hr : OwnT w w0.heap.size r.1 r.2.1 r.2.2 ts) (hB : B ≤ w0.heap.size)
    (hg : (w.alloc o).grownBy w' (some w.heap.size)) (hown : w'.ownsRow B 41 1 (.slice a1 (1 + n) c1) (1 + n) ([slV r] ++ rs.map slV)) (hn : 1 + n ≤ 3000) :
    OwnSS w' B a1 (1 + n) c1 (r :: rs) (ts :: tss) := by
  have hl := h0.len
  obtain ⟨h11, h12, h13, h14, h15⟩ := h0.below hb
  have hkeep : ∀ {B' : Nat} {x : Sl} {us : List Tm}, OwnT w B' x.1 x.2.1 x.2.2 us → OwnT w' B' x.1 x.2.1 x.2.2 us := fun hx =>
    (hx.alloc o).apart hg (fun g hgg e => by have := (hx.block g hgg).2; injection e with e; omega)
  refine ⟨by simpa using hown, hn, by simp [h13]; omega, fun i hi => ?_, fun i j g hi hj hgi hgj => ?_⟩
  · cases i with
    | zero => exact hkeep (hr.base hB)
    | succ i => exact hkeep (h14 i (by omega))
  · have hnew : ∀ g, (slV r).ownBlock = some g → w0.heap.size ≤ g := fun g hg => (hr.block g hg).1
    have hold : ∀ i, i < n → ∀ g, (slV (slAt rs i)).ownBlock = some g → g < w0.heap.size := fun i hi g hg => ((h0.2.2.2.1 i hi).block g hg).2
    cases i with
    | zero =>
      cases j with
      | zero => rfl
      | succ j =>
        have := hold j (by omega) g hgj
        have := hnew g hgi
        omega
    | succ i =>
      cases j with
      | zero =>
        have := hold i (by omega) g hgi
        have := hnew g hgj
        omega
      | succ j => rw [h15 i j g (by omega) (by omega) hgi hgj]

set_option maxRecDepth 100000 in
set_option maxHeartbeats 1600000 in
theorem specPartsOf_any (a : Option Addr) (n c : Nat) (ts : List Tm) (w : World) (h : Terms w a n ts) (hc : n ≤ c) :
    Calls Tryz.prog 139 #[.slice a n c] w (MadeSS w (partsL ts)) := by
  have HL := Lib.hid h.1
  cases hok : expB ts with
  | false =>
    have HP := Lib.hid (partsL_no hok)
    have HK := Lib.hid hok
    clear hok
    go_enter Tryz.func139, Tryz.ntmps139
    go_wp2_with fail
    refine (specExpOk_any _ _ _ ts _ (h.below (Nat.le_refl _) ((Below.refl _ _).alloc (Nat.le_refl _) _))).mono ?_
    rintro e w1 ⟨rfl, hb1⟩
    rw [HK.out]
    go_wp2_with fail
    go_ret
    exact ⟨_, _, _, [], rfl, by rw [HP.out]; exact (ownSS_empty w w.heap.size (Nat.le_refl _)).below hb1, ((Below.refl _ _).alloc (Nat.le_refl _) _).trans (hb1.mono (by simp))⟩
  | true =>
    have HK := Lib.hid hok
    have hle := ((expB_iff ts).1 hok).1
    have hn : n ≤ 3000 := by have := HL.out; omega
    obtain ⟨op, nn, kids, hstk, hts, hop, hkl, hkok⟩ := tree_of ((expB_iff ts).1 hok).2
    have HP := Lib.hid (partsL_yes hok hstk)
    have HTS := Lib.hid hts
    have hnl : n = (Tr.flats kids).length + 1 := by
      have e := congrArg List.length hts
      rw [List.length_append, List.length_singleton] at e
      rw [← HL.out]; exact e
    obtain ⟨b, o, x, y, rfl, hb, hz, hin1, hin2, hc1, hc2⟩ := h.at_ (k := n - 1) (by omega)
    have hxop : x = op := by
      have e : tmAt ts (n - 1) = (op, nn) := by
        rw [hts, show n - 1 = (Tr.flats kids).length + 0 by omega, tmAt_append_right]; rfl
      rw [hz.out] at e
      injection e
    subst hxop
    obtain ⟨q, HQ⟩ : ∃ q, Hid (kids.length = q) := ⟨_, rfl⟩
    have HKL : Hid (takesI x = (q : Int)) := by show _ = _; rw [← hkl, HQ.out]
    have hq3 : q ≤ 3 := by have := HKL.out; have := takesI_range x; omega
    clear hok hstk hts hop hle hkl
    have hnl1 : (n : Int) - 2 = ((Tr.flats (kids.take q)).length : Int) - 1 := by rw [List.take_of_length_le (by rw [HQ.out]; exact Nat.le_refl _)]; omega
    have HNL := Lib.hid hnl1
    have hn0 : 0 < n := by omega
    have hfn : (Tr.flats kids).length < n := by omega
    clear hnl hnl1
    have hss0 := (ownSS_empty w w.heap.size (Nat.le_refl _))
    go_enter Tryz.func139, Tryz.ntmps139
    go_wp2_with fail
    refine (specExpOk_any _ _ _ ts _ (h.below (Nat.le_refl _) ((Below.refl _ _).alloc (Nat.le_refl _) _))).mono ?_
    rintro e w1 ⟨rfl, hb1⟩
    rw [HK.out]
    have ht1 : Below w.heap.size w w1 := ((Below.refl _ _).alloc (Nat.le_refl _) _).trans (hb1.mono (by simp))
    have hd1 : w1.cell? ⟨b, o + (n - 1) * 2, none⟩ = some (.int .i64 x) := (ht1.cell hb).trans hc1
    have hss1 := hss0.below hb1
    clear hss0 hb1 hc1 hc2
    go_wp2_with fail
    refine (specTakes_any _ _).mono ?_
    rintro e w2 ⟨rfl, hb2⟩
    rw [HKL.out, HNL.out]
    have ht2 : Below w.heap.size w w2 := ht1.trans (hb2.mono ht1.size)
    have hss2 := hss1.below hb2
    clear hss1 hb2 hd1 ht1
    go_wp2
    go_loopw [3, 4, 5] (fun out en nv wr => ∃ (j g0 pn pc : Nat) (rs : List Sl), j ≤ q ∧ nv = .int .i64 j ∧ en = .int .i64 (((Tr.flats (kids.take j)).length : Int) - 1) ∧ out = .slice (some ⟨g0, 0, none⟩) pn pc ∧ Hid (pn + j = q) ∧ OwnSS wr w.heap.size (some ⟨g0, 0, none⟩) pn pc rs ((kids.drop j).map Tr.flat) ∧ Below w.heap.size w wr) (fun _ _ nv _ => (intOf nv).toNat)
    case atStart => exact ⟨q, w.heap.size, 0, 0, [], Nat.le_refl _, rfl, rfl, rfl, Nat.zero_add _, by rw [List.drop_of_length_le (by rw [HQ.out]; exact Nat.le_refl _)]; exact hss2, ht2⟩
    case round =>
      clear hss2 ht2
      obtain ⟨j, g0, pn, pc, rs, hj, rfl, rfl, rfl, hpn, hss, hbel⟩ := hrel
      by_cases hp : 0 < j
      · obtain ⟨i, rfl⟩ : ∃ i, j = i + 1 := ⟨j - 1, by omega⟩
        obtain ⟨L, HL0⟩ : ∃ L, Hid ((Tr.flats (kids.take i)).length = L) := ⟨_, rfl⟩
        obtain ⟨K, HK0⟩ : ∃ K, Hid ((kids.getD i default).flat.length = K) := ⟨_, rfl⟩
        have hki : i < kids.length := by rw [HQ.out]; omega
        have HL1 : Hid ((Tr.flats (kids.take (i + 1))).length = L + K) := by show _ = _; rw [flats_take_succ kids i hki, List.length_append, HL0.out, HK0.out]
        have hK1 : 1 ≤ K := by rw [← HK0.out]; exact flat_pos _
        have hLK : L + K < n := by have := flats_take_le kids i hki; rw [HL0.out, HK0.out] at this; omega
        have HTS2 : Hid (ts = Tr.flats (kids.take i) ++ ((kids.getD i default).flat ++ (Tr.flats (kids.drop (i + 1)) ++ [(x, nn)]))) := by
          show _ = _
          rw [HTS.out]
          have e : kids = kids.take i ++ ([kids.getD i default] ++ kids.drop (i + 1)) := by
            rw [List.getD_eq_getElem?_getD, List.getElem?_eq_getElem hki]
            simp
          conv => lhs; rw [e]
          rw [flats_append, flats_append, flats_one]
          simp
        have hsc : ∀ at_ : Int, at_ = (L : Int) + (K : Int) - 1 → scan ts (at_.toNat + 1) 1 = L := by
          intro at_ e
          have := scan_flat (kids.getD i default) (Tr.flats (kids.take i)) (Tr.flats (kids.drop (i + 1)) ++ [(x, nn)]) 1 (by omega) (oks_getD hkok hki)
          rw [← HTS2.out, if_pos rfl, HL0.out, HK0.out] at this
          rw [show at_.toNat + 1 = L + K by omega]
          exact this
        have HSC := Lib.hid hsc
        clear hsc
        have hTer := h.below (Nat.le_refl _) hbel
        have hpart := hTer.part HTS2.out
        rw [HL0.out, HK0.out] at hpart
        have hbr : b < wr.heap.size := Nat.lt_of_lt_of_le hb hbel.size
        have HM : Hid ((kids.drop i).map Tr.flat = (kids.getD i default).flat :: (kids.drop (i + 1)).map Tr.flat) := by
          show _ = _
          rw [List.drop_eq_getElem_cons hki, List.getD_eq_getElem?_getD, List.getElem?_eq_getElem hki]; rfl
        generalize (kids.getD i default).flat = f1 at *
        rw [HL1.out]
        go_wp2_with fail
        refine (l2First_any _ _ _ ts _ hTer _ (by omega) (by omega) L (HSC.out _ (by omega))).mono ?_
        rintro e w3 ⟨rfl, hb3⟩
        have hss3 := hss.below hb3
        have hpart3 := hpart.below (Nat.le_refl _) hb3
        have hbs3 : wr.heap.size ≤ w3.heap.size := hb3.size
        have ht3 : Below w.heap.size w w3 := hbel.trans (hb3.mono hbel.size)
        clear hTer hpart hss hb3
        go_wp2_with fail
        refine (l2Copy_any _ _ _ _ f1 _ hpart3 (by omega)).mono ?_
        rintro e w4 ⟨a4, n4, c4, rfl, hown4, hb4⟩
        have hss4 := hss3.below hb4
        have hbs4 : w3.heap.size ≤ w4.heap.size := hb4.size
        have hw3 : w.heap.size ≤ w3.heap.size := ht3.size
        have HN : Hid (∀ (ob : Obj) jj u, (rs.map slV)[jj]? = some u → (w4.alloc ob).cell? ((⟨g0, 0, none⟩ : Addr).add jj) = some u) := fun ob jj u hjj => (hss4.1.alloc ob).cells (g := g0) rfl jj u hjj
        have hrl : (rs.map slV).length = pn := by rw [List.length_map]; exact hss4.len
        have HRL := Lib.hid hrl
        have hpn3 : pn ≤ 3 := by have := hpn.out; omega
        clear hrl hpart3
        go_wp2_with (at_builtin; refine wpList_pushG _ rfl _ _ 176 41 (.slice none 0 0) 1 24 rfl Tryz.underlying176 info_terms rfl (by omega) w.heap.size _ 1 1 [slV (a4, n4, c4)] rfl (World.ownsRow_lit w4 #[slV (a4, n4, c4)] 1 (by omega) (by unfold maxLen; omega) rfl) ⟨g0, 0, none⟩ pn pc (rs.map slV) rfl (by rw [HRL.out]; omega) (HN.out _) (fun u hu => by obtain ⟨r, _, rfl⟩ := List.mem_map.1 hu; rfl) (by unfold maxLen; omega) (by omega) (by simp; omega) ?_)
        intro a5 c5 w5 hown5 hgr5
        have hg5 : ∃ g5, a5 = some ⟨g5, 0, none⟩ := by
          rcases hown5.2 with ⟨_, h0⟩ | ⟨g, cap, cur, e, _⟩
          · omega
          · exact ⟨g, by injection e⟩
        obtain ⟨g5, rfl⟩ := hg5
        have hss5 := ownSS_cons (r := (a4, n4, c4)) hss3 hb4 hown4 hw3 hgr5.1 hown5 (by omega)
        have ht5 : Below w.heap.size w w5 := ((ht3.trans (hb4.mono hw3)).alloc (by omega) _).grown hgr5.1 (by simp; omega) (fun g hg => by simp [Value.ownBlock] at hg; omega)
        have hpn5 : Hid (1 + pn + i = q) := by show _ = _; have := hpn.out; omega
        clear hss3 hss4 hown4 hown5 hgr5 hb4 ht3 HN HRL hpn
        go_wp2
        go_roundw
        case rel => exact ⟨i, g5, 1 + pn, c5, (a4, n4, c4) :: rs, by omega, by go_num, by rw [HL0.out], rfl, hpn5, by rw [HM.out]; exact hss5, ht5⟩
        case measure => simp [intOf]
      · obtain rfl : j = 0 := by omega
        have hpn0 : pn = q := by have := hpn.out; omega
        rw [List.drop_zero] at hss
        go_wp2
        go_ret
        exact ⟨_, _, _, rs, rfl, by rw [HP.out]; exact hss, hbel⟩
end Go.Proofs.YtjboghmcmlkpoaaGreatDoor
/- Plain mathematics of nested bodies: where a body ends that begins at a place; where a statement's middle and end are. -/
namespace Go.Proofs.YtjboghmcmlkpoaaGreatDoor

def opAt (ss : List Stm) (i : Nat) : Int := (stAt ss i).op
/-- There is such a statement at this place. -/
def isAt (ss : List Stm) (z op : Int) : Bool := (decide (0 ≤ z) && decide (z ≤ (ss.length : Int) - 1)) && (opAt ss z.toNat == op)
mutual
def blockOf (ss : List Stm) (i : Nat) : Int :=
  if i < ss.length then
    if opAt ss i = 3 ∨ opAt ss i = 9 ∨ opAt ss i = 4 then (i : Int)
    else if opAt ss i = 2 ∨ opAt ss i = 5 ∨ opAt ss i = 8 then
      if _h : (i : Int) ≤ (endOf ss i).2 then blockOf ss ((endOf ss i).2.toNat + 1) else -1
    else blockOf ss (i + 1)
  else (i : Int)
termination_by (ss.length - i, 1)
decreasing_by
  · exact Prod.Lex.right _ (by omega)
  · exact Prod.Lex.left _ _ (by omega)
  · exact Prod.Lex.left _ _ (by omega)
def endOf (ss : List Stm) (i : Nat) : Int × Int :=
  if i < ss.length then
    if opAt ss i = 5 then
      if isAt ss (blockOf ss (i + 1)) 4 then (-1, blockOf ss (i + 1)) else (-1, -1)
    else if opAt ss i = 2 then
      if isAt ss (blockOf ss (i + 1)) 4 then (-1, blockOf ss (i + 1))
      else if _h : isAt ss (blockOf ss (i + 1)) 3 = true ∧ i < (blockOf ss (i + 1)).toNat then
        if isAt ss (blockOf ss ((blockOf ss (i + 1)).toNat + 1)) 4 then (blockOf ss (i + 1), blockOf ss ((blockOf ss (i + 1)).toNat + 1)) else (-1, -1)
      else (-1, -1)
    else if opAt ss i = 8 then
      if _h : isAt ss (blockOf ss (i + 1)) 9 = true ∧ i < (blockOf ss (i + 1)).toNat then
        if isAt ss (blockOf ss ((blockOf ss (i + 1)).toNat + 1)) 4 then (blockOf ss (i + 1), blockOf ss ((blockOf ss (i + 1)).toNat + 1)) else (-1, -1)
      else (-1, -1)
    else (-1, -1)
  else (-1, -1)
termination_by (ss.length - i, 0)
decreasing_by all_goals exact Prod.Lex.left _ _ (by omega)
end

theorem isAt_range {ss : List Stm} {z op : Int} (h : isAt ss z op = true) : 0 ≤ z ∧ z < ss.length := by
  simp only [isAt, Bool.and_eq_true, decide_eq_true_eq] at h
  omega
/-- Where a body ends that begins at i: in it or just behind it, or it is not well nested. -/
def BlockIn (ss : List Stm) (i : Nat) (z : Int) : Prop := z = -1 ∨ ((i : Int) ≤ z ∧ z ≤ ss.length)
/-- An end lies behind its beginning, its middle between. -/
def EndIn (ss : List Stm) (i : Nat) (p : Int × Int) : Prop := p = (-1, -1) ∨ ((i : Int) < p.2 ∧ p.2 < ss.length ∧ (p.1 = -1 ∨ ((i : Int) < p.1 ∧ p.1 < p.2)))
theorem block_step {ss : List Stm} {i : Nat} (hi : i ≤ ss.length) (he : i < ss.length → EndIn ss i (endOf ss i)) (hb : ∀ j, i < j → j ≤ ss.length → BlockIn ss j (blockOf ss j)) : BlockIn ss i (blockOf ss i) := by
  rw [blockOf]
  by_cases h : i < ss.length
  · rw [if_pos h]
    split
    · exact .inr ⟨by omega, by omega⟩
    · split
      · split
        · rename_i hle
          rcases he h with e | e
          · rw [e] at hle; simp only [] at hle; omega
          · rcases hb ((endOf ss i).2.toNat + 1) (by omega) (by omega) with q | q
            · exact .inl q
            · exact .inr (by omega)
        · exact .inl rfl
      · rcases hb (i + 1) (by omega) (by omega) with q | q
        · exact .inl q
        · exact .inr (by omega)
  · rw [if_neg h]
    exact .inr ⟨by omega, by omega⟩
theorem end_step {ss : List Stm} {i : Nat} (hi : i < ss.length) (hb : ∀ j, i < j → j ≤ ss.length → BlockIn ss j (blockOf ss j)) : EndIn ss i (endOf ss i) := by
  have h1 := hb (i + 1) (by omega) (by omega)
  rw [endOf, if_pos hi]
  generalize blockOf ss (i + 1) = m at h1
  have fin : ∀ op, isAt ss m op = true → (i : Int) < m ∧ m < ss.length := fun op h => by
    have := isAt_range h
    rcases h1 with q | q <;> omega
  have two : ∀ op, isAt ss m op = true → isAt ss (blockOf ss (m.toNat + 1)) 4 = true → EndIn ss i (m, blockOf ss (m.toNat + 1)) := fun op ho h => by
    have q1 := fin op ho
    have q2 := isAt_range h
    rcases hb (m.toNat + 1) (by omega) (by omega) with q | q
    · exact absurd q (by omega)
    · exact .inr ⟨by simp only []; omega, by simp only []; omega, .inr ⟨by simp only []; omega, by simp only []; omega⟩⟩
  have one : ∀ op, isAt ss m op = true → EndIn ss i (-1, m) := fun op ho => by
    have q1 := fin op ho
    exact .inr ⟨q1.1, q1.2, .inl rfl⟩
  split
  · split
    · rename_i h; exact one 4 h
    · exact .inl rfl
  · split
    · split
      · rename_i h; exact one 4 h
      · split
        · rename_i h
          split
          · rename_i h2; exact two 3 h.1 h2
          · exact .inl rfl
        · exact .inl rfl
    · split
      · split
        · rename_i h
          split
          · rename_i h2; exact two 9 h.1 h2
          · exact .inl rfl
        · exact .inl rfl
      · exact .inl rfl
theorem nest_in (ss : List Stm) : ∀ (d i : Nat), ss.length - i ≤ d → i ≤ ss.length → BlockIn ss i (blockOf ss i) ∧ (i < ss.length → EndIn ss i (endOf ss i))
  | 0, i, hd, hi => ⟨block_step hi (fun h => absurd h (by omega)) (fun j h1 h2 => absurd h1 (by omega)), fun h => absurd h (by omega)⟩
  | d + 1, i, hd, hi => by
    have hb : ∀ j, i < j → j ≤ ss.length → BlockIn ss j (blockOf ss j) := fun j h1 h2 => (nest_in ss d j (by omega) h2).1
    exact ⟨block_step hi (fun h => end_step h hb) hb, fun h => end_step h hb⟩
theorem block_in (ss : List Stm) {i : Nat} (h : i ≤ ss.length) : BlockIn ss i (blockOf ss i) := (nest_in ss _ i (Nat.le_refl _) h).1
theorem end_in (ss : List Stm) {i : Nat} (h : i < ss.length) : EndIn ss i (endOf ss i) := (nest_in ss _ i (Nat.le_refl _) (by omega)).2 h
/-! The equations, case by case. -/
section
variable {ss : List Stm} {i : Nat}
theorem block_past (h : ss.length ≤ i) : blockOf ss i = i := by rw [blockOf, if_neg (by omega)]
theorem block_stop (h : i < ss.length) (ho : opAt ss i = 3 ∨ opAt ss i = 9 ∨ opAt ss i = 4) : blockOf ss i = i := by rw [blockOf, if_pos h, if_pos ho]
theorem block_next (h : i < ss.length) (ho : ¬ (opAt ss i = 3 ∨ opAt ss i = 9 ∨ opAt ss i = 4)) (ho2 : ¬ (opAt ss i = 2 ∨ opAt ss i = 5 ∨ opAt ss i = 8)) : blockOf ss i = blockOf ss (i + 1) := by
  rw [blockOf, if_pos h, if_neg ho, if_neg ho2]
theorem block_bad (h : i < ss.length) (ho : opAt ss i = 2 ∨ opAt ss i = 5 ∨ opAt ss i = 8) (he : (endOf ss i).2 < 0) : blockOf ss i = -1 := by
  rw [blockOf, if_pos h, if_neg (by omega), if_pos ho, dif_neg (by omega)]
theorem block_over (h : i < ss.length) (ho : opAt ss i = 2 ∨ opAt ss i = 5 ∨ opAt ss i = 8) (he : 0 ≤ (endOf ss i).2) : blockOf ss i = blockOf ss ((endOf ss i).2.toNat + 1) := by
  have := end_in ss h
  have hle : (i : Int) ≤ (endOf ss i).2 := by
    rcases this with e | e
    · rw [e] at he; simp only [] at he; omega
    · omega
  rw [blockOf, if_pos h, if_neg (by omega), if_pos ho, dif_pos hle]
end
end Go.Proofs.YtjboghmcmlkpoaaGreatDoor
/- Plain mathematics of steps: what a well nested part of a body takes, and that it is no great number. -/
namespace Go.Proofs.YtjboghmcmlkpoaaGreatDoor

/-- The part [i, j) takes s steps. -/
inductive Steps (ss : List Stm) : Nat → Nat → Nat → Prop where
  | nil (i : Nat) : Steps ss i i 0
  | plain {i j s : Nat} (hi : i < ss.length) (h2 : opAt ss i ≠ 2) (h5 : opAt ss i ≠ 5) (h8 : opAt ss i ≠ 8) (t : Steps ss (i + 1) j s) : Steps ss i j (1 + s)
  | one {i e j s t : Nat} (hi : i < ss.length) (h2 : opAt ss i = 2) (he : endOf ss i = (-1, (e : Int))) (p : Steps ss (i + 1) e s) (q : Steps ss (e + 1) j t) : Steps ss i j (1 + s + t)
  | two {i m e j s s' t : Nat} (hi : i < ss.length) (h2 : opAt ss i = 2) (he : endOf ss i = ((m : Int), (e : Int))) (p : Steps ss (i + 1) m s) (p' : Steps ss (m + 1) e s') (q : Steps ss (e + 1) j t) : Steps ss i j (1 + max s s' + t)
  | loop {i e j k s t : Nat} (hi : i < ss.length) (h5 : opAt ss i = 5) (he : endOf ss i = (-1, (e : Int))) (hk : (stAt ss i).n = (k : Int)) (h4 : k ≤ 4) (p : Steps ss (i + 1) e s) (q : Steps ss (e + 1) j t) : Steps ss i j (1 + k * (1 + s) + t)
  | attempt {i m e j s s' t : Nat} (hi : i < ss.length) (h8 : opAt ss i = 8) (he : endOf ss i = ((m : Int), (e : Int))) (p : Steps ss (i + 1) m s) (p' : Steps ss (m + 1) e s') (q : Steps ss (e + 1) j t) : Steps ss i j (1 + s + s' + t)

theorem sq_le {a b : Nat} (h : a ≤ b) : a * a ≤ b * b := Nat.mul_le_mul h h
theorem mul_one_le {a b : Nat} (hb : 1 ≤ b) : a ≤ a * b := by
  calc a = a * 1 := (Nat.mul_one a).symm
    _ ≤ a * b := Nat.mul_le_mul_left a hb
/-- Two parts and two statements. -/
theorem grow2 {S T a b x : Nat} (hS : S * S ≤ 6 ^ a) (hT : T * T ≤ 6 ^ b) (h1 : 1 ≤ S) (h2 : 1 ≤ T) (hx : x ≤ 1 + 4 * S + T) : x * x ≤ 6 ^ (a + b + 2) := by
  have e1 : S ≤ S * T := mul_one_le h2
  have e2 : T ≤ S * T := by rw [Nat.mul_comm]; exact mul_one_le h1
  have e3 : x ≤ 6 * (S * T) := by omega
  calc x * x ≤ (6 * (S * T)) * (6 * (S * T)) := sq_le e3
    _ = (S * S) * (T * T) * 36 := by simp only [Nat.mul_comm, Nat.mul_left_comm, Nat.mul_assoc]
    _ ≤ 6 ^ a * 6 ^ b * 36 := Nat.mul_le_mul_right _ (Nat.mul_le_mul hS hT)
    _ = 6 ^ (a + b + 2) := by rw [Nat.pow_add, Nat.pow_add]
theorem grow3 {S U T a b c x : Nat} (hS : S * S ≤ 6 ^ a) (hU : U * U ≤ 6 ^ b) (hT : T * T ≤ 6 ^ c) (h1 : 1 ≤ S) (h2 : 1 ≤ U) (h3 : 1 ≤ T) (hx : x ≤ S + U + T) : x * x ≤ 6 ^ (a + b + c + 3) := by
  have hSU : 1 ≤ S * U := Nat.mul_le_mul h1 h2
  have e0 : S * U ≤ S * U * T := mul_one_le h3
  have e1 : S ≤ S * U := mul_one_le h2
  have e2 : U ≤ S * U := by rw [Nat.mul_comm]; exact mul_one_le h1
  have e3 : T ≤ S * U * T := by rw [Nat.mul_comm]; exact mul_one_le hSU
  have e4 : x ≤ 3 * (S * U * T) := by omega
  calc x * x ≤ (3 * (S * U * T)) * (3 * (S * U * T)) := sq_le e4
    _ = (S * S) * (U * U) * (T * T) * 9 := by simp only [Nat.mul_comm, Nat.mul_left_comm, Nat.mul_assoc]
    _ ≤ 6 ^ a * 6 ^ b * 6 ^ c * 9 := Nat.mul_le_mul_right _ (Nat.mul_le_mul (Nat.mul_le_mul hS hU) hT)
    _ ≤ 6 ^ a * 6 ^ b * 6 ^ c * 6 ^ 3 := Nat.mul_le_mul_left _ (by decide)
    _ = 6 ^ (a + b + c + 3) := by rw [Nat.pow_add, Nat.pow_add, Nat.pow_add]
theorem steps_small {ss : List Stm} {i j s : Nat} (h : Steps ss i j s) : i ≤ j ∧ (s + 1) * (s + 1) ≤ 6 ^ (j - i) := by
  induction h with
  | nil i => exact ⟨Nat.le_refl _, by rw [Nat.sub_self]; decide⟩
  | @plain i j s hi h2 h5 h8 t ih =>
    refine ⟨by omega, ?_⟩
    have := grow2 (S := 1) (T := s + 1) (a := 0) (b := j - (i + 1)) (x := s + 2) (by decide) ih.2 (by omega) (by omega) (by omega)
    have e : (1 + s + 1) = s + 2 := by omega
    rw [e]
    have h4 : (s + 2) * (s + 2) ≤ 4 * ((s + 1) * (s + 1)) := by
      have : s + 2 ≤ 2 * (s + 1) := by omega
      calc (s + 2) * (s + 2) ≤ (2 * (s + 1)) * (2 * (s + 1)) := sq_le this
        _ = 4 * ((s + 1) * (s + 1)) := by simp only [Nat.mul_comm, Nat.mul_left_comm, Nat.mul_assoc]
    have e2 : 6 ^ (j - i) = 6 ^ (j - (i + 1)) * 6 := by rw [← Nat.pow_succ]; congr 1; omega
    rw [e2]
    omega
  | @one i e j s t hi h2 he p q ih1 ih2 =>
    refine ⟨by omega, ?_⟩
    have := grow2 (x := 1 + s + t + 1) ih1.2 ih2.2 (by omega) (by omega) (by omega)
    rwa [show e - (i + 1) + (j - (e + 1)) + 2 = j - i by omega] at this
  | @two i m e j s s' t hi h2 he p p' q ih1 ih2 ih3 =>
    refine ⟨by omega, ?_⟩
    have := grow3 (x := 1 + max s s' + t + 1) ih1.2 ih2.2 ih3.2 (by omega) (by omega) (by omega) (by omega)
    rwa [show m - (i + 1) + (e - (m + 1)) + (j - (e + 1)) + 3 = j - i by omega] at this
  | @loop i e j k s t hi h5 he hk h4 p q ih1 ih2 =>
    refine ⟨by omega, ?_⟩
    have hm : k * (1 + s) ≤ 4 * (1 + s) := Nat.mul_le_mul_right _ h4
    have := grow2 (x := 1 + k * (1 + s) + t + 1) ih1.2 ih2.2 (by omega) (by omega) (by omega)
    rwa [show e - (i + 1) + (j - (e + 1)) + 2 = j - i by omega] at this
  | @attempt i m e j s s' t hi h8 he p p' q ih1 ih2 ih3 =>
    refine ⟨by omega, ?_⟩
    have := grow3 (x := 1 + s + s' + t + 1) ih1.2 ih2.2 ih3.2 (by omega) (by omega) (by omega) (by omega)
    rwa [show m - (i + 1) + (e - (m + 1)) + (j - (e + 1)) + 3 = j - i by omega] at this
theorem steps_bound {ss : List Stm} {i j s : Nat} (h : Steps ss i j s) (h40 : j - i ≤ 40) : s < 3656158440062976 := by
  have := (steps_small h).2
  have h2 : 6 ^ (j - i) ≤ 6 ^ 40 := Nat.pow_le_pow_right (by omega) h40
  rcases Nat.lt_or_ge s 3656158440062976 with hlt | hge
  · exact hlt
  · have h3 : 3656158440062977 * 3656158440062977 ≤ (s + 1) * (s + 1) := sq_le (by omega)
    have h4 : (6 : Nat) ^ 40 < 3656158440062977 * 3656158440062977 := by decide
    omega
end Go.Proofs.YtjboghmcmlkpoaaGreatDoor
