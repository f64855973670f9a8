/- Joined texts of this proof (TreeOf, NestMath, StepsMath, SpecNest, SpecEnd, SpecSteps), in build order. -/
import Derived.Test.YtmooecbdpfhnlaaJ7
import Derived.Lib.SliceRun
import Derived.Deep.RegionHeld3
import Derived.Deep.AppendLies
import Derived.Test.YtmooecbdpfhnlaaJ4
import Derived.Test.YtmooecbdpfhnlaaJ1
/- The contracts of slices.Clone at trees, of treeUnder and of treeOf: the tree of an expression. -/
namespace Go.Proofs.Ytmooecbdpfhnlaa
open Go.RowKit

theorem info_tree : (Try.prog.info? 143).map (fun i => (i.zero, i.size, i.bytes)) = some (some .nilIface, 1, 16) := by kernel_rfl
theorem rowV_own {w : World} {B : Nat} {a : Option Addr} {n c : Nat} {vs : List Value} (h : w.ownsRow B 143 1 (.slice a n c) n vs) : RowV w (fun b => B ≤ b) a n vs := by
  have hl : vs.length = n := by have := h.1; omega
  refine ⟨hl, fun hp => ?_⟩
  rcases h.2 with ⟨_, h0⟩ | ⟨g, cap, cur, e, hB, hh, hnc, hcm, hcs, htk⟩
  · omega
  · have ea : a = some ⟨g, 0, none⟩ := by injection e
    subst ea
    refine ⟨g, 0, cur, (0, 0), rfl, hB, hh, fun i hi => ?_⟩
    have h1 : cur[i]? = cur.toList[i]? := by simp
    rw [Nat.zero_add, h1, ← List.getElem?_take_of_lt (show i < n * 1 by omega), htk, List.getD_eq_getElem?_getD, List.getElem?_eq_getElem (by omega)]
    rfl
def Ifaces (vs : List Value) : Prop := ∀ v ∈ vs, ∃ u x, v = .iface u x

set_option maxHeartbeats 400000 in
theorem clone_any (F : Nat → Prop) (a : Option Addr) (n c : Nat) (vs : List Value) (w : World) (h : RowV w F a n vs) (hv : Ifaces vs) (hn : n ≤ 3000) :
    Calls Try.prog 142 #[.slice a n c] w fun e w' => ∃ a' c', e = .returned (.slice a' n c') ∧ RowV w' (fun b => w.heap.size ≤ b) a' n vs ∧ Below w.heap.size w w' := by
  have qT : ∀ (w : World) (a : Option Addr) (n c n' c' : Nat), (binOp .eql 180 (.slice a n c) (.slice none n' c')).run Try.prog w = .ok (.bool a.isNone) w := fun w a n c n' c' => Lib.run_eql_slice_nil w _ _ a n c n' c' Try.underlying180
  cases a with
  | none =>
    have hn0 : n = 0 := by
      rcases Nat.eq_zero_or_pos n with h0 | h0
      · exact h0
      · obtain ⟨b, o, cur, fz, e, _⟩ := h.2 h0
        cases e
    subst hn0
    have hvs : vs = [] := List.eq_nil_of_length_eq_zero h.1
    subst hvs
    go_enter Try.func142, Try.ntmps142
    go_wp2
    go_ret
    exact ⟨none, 0, rfl, ⟨rfl, fun h => absurd h (by omega)⟩, Below.refl _ _⟩
  | some ad =>
    have hnews : ∀ (o : Obj) (j : Nat) (u : Value), vs[j]? = some u → (w.alloc o).cell? (ad.add j) = some u := by
      intro ob j u hj
      have hjl : j < vs.length := (List.getElem?_eq_some_iff.1 hj).1
      have hl := h.1
      obtain ⟨b, o, e, hb, hc⟩ := h.at_ (k := j) (by omega)
      injection e with e
      subst e
      rw [Go.WideShapes.add_plain, World.cell?_alloc_lt w ob _ hb, hc, ← hj, List.getD_eq_getElem?_getD, hj]
      rfl
    have HN := Lib.hid hnews
    clear hnews
    have hl := Lib.hid h.1
    go_enter Try.func142, Try.ntmps142
    go_wp2_with (at_builtin; refine wpList_pushG _ rfl _ _ 180 143 .nilIface 1 16 rfl Try.underlying180 info_tree rfl (by omega) w.heap.size _ 0 0 [] rfl (World.ownsRow_lit w #[] 0 (Nat.le_refl _) (by unfold maxLen; omega) rfl) ad n c vs rfl (by rw [hl.out]; omega) (HN.out _) (fun u hu => by obtain ⟨t, x, rfl⟩ := hv u hu; rfl) (by unfold maxLen; omega) (by omega) (by simp) ?_)
    intro a1 c1 w1 hown hgr
    go_wp2
    go_ret
    exact ⟨a1, c1, rfl, rowV_own hown, ((Below.refl _ _).alloc (Nat.le_refl _) _).grown hgr.1 (by simp) (fun k hk => by simp [Value.ownBlock] at hk; omega)⟩

set_option maxHeartbeats 800000 in
theorem treeUnder_any (F : Nat → Prop) (x y : Int) (a : Option Addr) (m c : Nat) (vs : List Value) (kids : List Tr) (w : World) (hok : (Tr.node x y kids).okT) (hrow : RowV w F a m vs) (hm : kids.length = m)
    (hkids : ∀ i, i < m → IsTree w F (vs.getD i .nilIface) (kids.getD i default)) :
    Calls Try.prog 143 #[.agg #[.int .i64 x, .int .i64 y], .slice a m c] w fun e w' => ∃ u z, e = .returned (.iface u z) ∧ IsTree w F (.iface u z) (.node x y kids) ∧ Below w.heap.size w w' := by
  simp only [Tr.okT] at hok
  obtain ⟨hok1, hok2, _⟩ := hok
  obtain ⟨ht0, _, _, hy⟩ := (tOkB_iff _).1 hok1
  simp only [] at ht0 hy
  have hx : x = 0 ∨ x = 1 ∨ x = 2 ∨ (3 ≤ x ∧ x ≤ 17) := by
    have := (takesI_neg x)
    rcases Int.lt_or_le x 0 with h' | h'
    · have := this.2 (.inl h'); omega
    · rcases Int.lt_or_le 17 x with h'' | h''
      · have := this.2 (.inr h''); omega
      · omega
  rcases hx with rfl | rfl | rfl | ⟨h3, h17⟩
  · have hk : kids = [] := List.eq_nil_of_length_eq_zero (by have : takesI 0 = 0 := rfl; omega)
    subst hk
    clear hok1 hok2 hm hkids hrow hy
    go_enter Try.func143, Try.ntmps143
    go_wp2
    go_ret
    exact ⟨_, _, rfl, .num y, (Below.refl _ _).alloc (Nat.le_refl _) _⟩
  · have hk : kids = [] := List.eq_nil_of_length_eq_zero (by have : takesI 1 = 0 := rfl; omega)
    subst hk
    clear hok1 hok2 hm hkids hrow hy
    go_enter Try.func143, Try.ntmps143
    go_wp2
    go_ret
    exact ⟨_, _, rfl, .var y, (Below.refl _ _).alloc (Nat.le_refl _) _⟩
  · have h1 : kids.length = 1 := by have : takesI 2 = 1 := rfl; omega
    obtain rfl : m = 1 := by omega
    match kids, h1 with
    | [T], _ =>
      obtain ⟨b, o, rfl, hb, hc⟩ := hrow.at_ (k := 0) (by omega)
      have hT := hkids 0 (by omega)
      obtain ⟨u, z, hv⟩ := hT.iface
      rw [hv] at hc hT
      have HT := Lib.hid hT
      rw [Nat.add_zero] at hc
      clear hok1 hok2 hm hkids hrow hy hv hT
      go_enter Try.func143, Try.ntmps143
      go_wp2
      go_quiet (fail)
      go_wp2
      go_ret
      exact ⟨_, _, rfl, .cell y _ T HT.out, below_dn ((Below.refl _ _).alloc (Nat.le_refl _) _) _⟩
  · have hy0 : y = 0 := by omega
    subst hy0
    have hm3 : m ≤ 3 := by have := takesI_range x; omega
    have HT := Lib.hid (IsTree.op (w := w) (F := F) x a m c vs kids h3 h17 hm3 hm hrow hkids)
    have n0 : (x == 0) = false := by simp; omega
    have n1 : (x == 1) = false := by simp; omega
    have n2 : (x == 2) = false := by simp; omega
    clear hok1 hok2 hm hkids hrow hy
    go_enter Try.func143, Try.ntmps143
    go_wp2
    go_ret
    exact ⟨_, _, rfl, HT.out, (Below.refl _ _).alloc (Nat.le_refl _) _⟩

/-- Not the block of this slice. -/
def Av (a : Option Addr) (n c : Nat) : Nat → Prop := fun b => some b ≠ (Value.slice a n c).ownBlock
/-- The stack: a row of the call's own that holds these trees, none of whose blocks is its own. -/
def Stack (w : World) (B : Nat) (a : Option Addr) (m c : Nat) (vs : List Value) (S : List Tr) : Prop :=
  w.ownsRow B 143 1 (.slice a m c) m vs ∧ S.length = m ∧ ∀ i, i < m → IsTree w (Av a m c) (vs.getD i .nilIface) (S.getD i default)
theorem Stack.below {w w' : World} {B : Nat} {a : Option Addr} {m c : Nat} {vs : List Value} {S : List Tr} (h : Stack w B a m c vs S) (hb : Below w.heap.size w w') : Stack w' B a m c vs S :=
  ⟨h.1.kept (row := none) ⟨hb.os, hb.tape, hb.output, hb.size, fun k hk _ => hb.block k hk⟩ (by cases a <;> simp [Value.ownBlock]), h.2.1, fun i hi => (h.2.2 i hi).keep (keeps_below hb)⟩
theorem own_capLe {w : World} {B : Nat} {e : TypeId} {size : Nat} {a : Option Addr} {n c : Nat} {xs : List Value} (h : w.ownsRow B e size (.slice a n c) n xs) : n ≤ c := by
  rcases h.2 with ⟨e1, h0⟩ | ⟨g, cap, cur, e1, hb, hg, hnc, _⟩
  · omega
  · injection e1 with e1 e2 e3
    omega
theorem Stack.len {w : World} {B : Nat} {a : Option Addr} {m c : Nat} {vs : List Value} {S : List Tr} (h : Stack w B a m c vs S) : vs.length = m := by have := h.1.1; omega
theorem Stack.ifaces {w : World} {B : Nat} {a : Option Addr} {m c : Nat} {vs : List Value} {S : List Tr} (h : Stack w B a m c vs S) : Ifaces vs := by
  intro v hv
  obtain ⟨i, hi, rfl⟩ := List.getElem_of_mem hv
  have hl := h.len
  have := (h.2.2 i (by omega)).iface
  rw [List.getD_eq_getElem?_getD, List.getElem?_eq_getElem hi] at this
  exact this

theorem own_cutG {w : World} {B : Nat} {e : TypeId} {a : Option Addr} {r q c : Nat} {xs : List Value} (h : w.ownsRow B e 1 (.slice a (r + q) c) (r + q) xs) : w.ownsRow B e 1 (.slice a r c) r (xs.take r) := by
  obtain ⟨h1, h2⟩ := h
  refine ⟨by simp; omega, ?_⟩
  rcases h2 with ⟨e1, h0⟩ | ⟨g, cap, cur, e1, hb, hg, hnc, hcm, hcs, ht⟩
  · have hr : r = 0 := by omega
    have hq : q = 0 := by omega
    subst hr hq
    exact .inl ⟨e1, rfl⟩
  · injection e1 with e1 e2 e3
    subst e1 e3
    refine .inr ⟨g, c, cur, rfl, hb, hg, by omega, hcm, hcs, ?_⟩
    rw [← ht, List.take_take, Nat.mul_one, Nat.mul_one, Nat.min_eq_left (by omega)]
theorem RowV.cut {w : World} {F : Nat → Prop} {a : Option Addr} {r q : Nat} {vs : List Value} (h : RowV w F a (r + q) vs) : RowV w F (a.map (·.add r)) q (vs.drop r) := by
  have hl := h.1
  refine ⟨by rw [List.length_drop]; omega, fun hp => ?_⟩
  obtain ⟨b, o, cur, fz, rfl, hF, hh, hc⟩ := h.2 (by omega)
  refine ⟨b, o + r, cur, fz, by simp [Go.WideShapes.add_plain], hF, hh, fun i hi => ?_⟩
  rw [Nat.add_assoc, hc (r + i) (by omega), List.getD_eq_getElem?_getD, List.getD_eq_getElem?_getD, List.getElem?_drop]

theorem own_block_len (a : Option Addr) (n c m d : Nat) : (Value.slice a n c).ownBlock = (Value.slice a m d).ownBlock := by cases a <;> rfl
theorem stack_push {w2 w3 w4 : World} {B : Nat} {sa : Option Addr} {r q sc : Nat} {vs : List Value} {S : List Tr} {o : Obj} {g cap : Nat} {v : Value} {T : Tr} (hst2 : Stack w2 B sa (r + q) sc vs S) (hb4 : Below w2.heap.size w2 w3)
    (hgrow : (w3.alloc o).grownBy w4 (Value.slice sa r sc).ownBlock) (hat : (Value.slice sa r sc).ownBlock = some g ∨ g = w3.heap.size + 1) (hown4 : w4.ownsRow B 143 1 (.slice (some ⟨g, 0, none⟩) (r + 1) cap) (r + 1) (vs.take r ++ [v]))
    (hIT : IsTree w2.drew (Av sa (r + q) sc) v T) : Stack w4 B (some ⟨g, 0, none⟩) (r + 1) cap (vs.take r ++ [v]) (S.take r ++ [T]) := by
  have hl := hst2.len
  have hk : Keeps w2 (Av sa (r + q) sc) w4 (Av (some ⟨g, 0, none⟩) (r + 1) cap) := by
    intro b cur fz hF hh
    have hb : b < w2.heap.size := (Array.getElem?_eq_some_iff.1 hh).1
    have hs := hb4.size
    have hne : some b ≠ (Value.slice sa r sc).ownBlock := by rw [own_block_len sa r sc (r + q) sc]; exact hF
    refine ⟨(hgrow.block b (by simp; omega) hne).trans ((Below.heap_alloc w3 o b (by omega)).trans (hb4.block b hb)), fun e => ?_⟩
    have e' : b = g := by simpa [Value.ownBlock] using e
    subst e'
    rcases hat with h1 | h1
    · exact hne h1.symm
    · omega
  have hSl := hst2.2.1
  refine ⟨hown4, by simp; omega, fun i hi => ?_⟩
  rcases Nat.lt_or_ge i r with h1 | h1
  · rw [List.getD_eq_getElem?_getD, List.getD_eq_getElem?_getD, List.getElem?_append_left (by simp; omega), List.getElem?_append_left (by simp; omega), List.getElem?_take_of_lt h1, List.getElem?_take_of_lt h1, ← List.getD_eq_getElem?_getD, ← List.getD_eq_getElem?_getD]
    exact (hst2.2.2 i (by omega)).keep hk
  · have : i = r := by omega
    subst this
    have e1 : (vs.take i ++ [v]).getD i .nilIface = v := by rw [List.getD_eq_getElem?_getD, List.getElem?_append_right (by simp; omega)]; simp [show i - min i vs.length = 0 by omega]
    have e2 : (S.take i ++ [T]).getD i default = T := by rw [List.getD_eq_getElem?_getD, List.getElem?_append_right (by simp; omega)]; simp [show i - min i S.length = 0 by omega]
    rw [e1, e2]
    exact hIT.keep (fun b cur fz hF hh => hk b cur fz hF hh)
theorem below_drew {B : Nat} {w w' : World} (h : Below B w.drew w') : Below B w w' := ⟨h.os, h.tape, h.output, h.size, h.block⟩

set_option maxRecDepth 100000 in
set_option maxHeartbeats 1600000 in
theorem treeOf_any (a : Option Addr) (n c : Nat) (ts : List Tm) (T : Tr) (w : World) (h : Terms w a n ts) (hn : n ≤ 3000) (hx : Hid (runD 0 ts = some 1)) (hT : Hid (stackOf ts = [T])) :
    Calls Try.prog 106 #[.slice a n c] w fun e w' => ∃ u z, e = .returned (.iface u z) ∧ IsTree w' (fun _ => True) (.iface u z) T ∧ Below w.heap.size w w' := by
  have HL := Lib.hid h.1
  go_enter Try.func106, Try.ntmps106
  go_wp2
  go_loopw [3, 10] (fun st i wr => ∃ (k : Nat) (sa : Option Addr) (m sc : Nat) (vs : List Value), k ≤ n ∧ m ≤ k ∧ i = .int .i64 k ∧ st = .slice sa m sc ∧ Stack wr w.heap.size sa m sc vs (stackOf (ts.take k)) ∧ Below w.heap.size w wr) (fun _ i _ => n - (intOf i).toNat)
  case atStart => exact ⟨0, none, 0, 0, [], Nat.zero_le _, Nat.le_refl _, rfl, rfl, ⟨World.ownsRow_nil _ _ _ _, rfl, fun i hi => absurd hi (by omega)⟩, Below.refl _ _⟩
  case round =>
    obtain ⟨k, sa, m, sc, vs, hk, hmk, rfl, rfl, hst, hbel⟩ := hrel
    by_cases hlt : k < n
    · obtain ⟨b, o, x, y, rfl, hb, hz, hin1, hin2, hc1, hc2⟩ := (h.below (Nat.le_refl _) hbel).at_ hlt
      obtain ⟨d, hd, hS1, hS2, hS3⟩ := stack_take hx.out k
      obtain ⟨ht1, ht2, ht3⟩ := runD_at hx.out (by rw [HL.out]; exact hlt) hd
      have hS := Lib.hid (stackOf_succ ts k (by rw [HL.out]; exact hlt))
      rw [hz.out] at ht1 ht2 hS
      have hm : (stackOf (ts.take k)).length = m := hst.2.1
      have hq0 := ((tOkB_iff _).1 ht1).1
      simp only [] at ht2 hq0
      obtain ⟨q, HQ⟩ : ∃ q : Nat, Hid (takesI x = q) := ⟨(takesI x).toNat, by show _ = _; omega⟩
      have hqm : q ≤ m := by have := HQ.out; omega
      have hq3 : q ≤ 3 := by have := HQ.out; have := takesI_range x; omega
      clear ht3 hd hS1 hS2 hm hq0 ht2
      obtain ⟨r, rfl⟩ : ∃ r, m = r + q := ⟨m - q, by omega⟩
      have hst1 := hst.below ((Below.refl _ _).alloc (Nat.le_refl _) (.cells #[.int .i64 x, .int .i64 y] 94))
      have hle := own_capLe hst.1
      have hbx0 : (wr.alloc (.cells #[.int .i64 x, .int .i64 y] 94)).cell? ⟨wr.heap.size, 0, none⟩ = some (.int .i64 x) := by simp
      have hbx1 : (wr.alloc (.cells #[.int .i64 x, .int .i64 y] 94)).cell? ⟨wr.heap.size, 1, none⟩ = some (.int .i64 y) := by simp
      have hrow := (rowV_own hst1.1).cut
      have hokN : Hid ((Tr.node x y ((stackOf (ts.take k)).drop r)).okT) := by
        show Tr.okT _
        simp only [Tr.okT]
        refine ⟨ht1, ?_, ?_⟩
        · rw [HQ.out, List.length_drop, hst.2.1]; omega
        · exact (oks_iff _).2 (fun t ht => (oks_iff _).1 hS3 t (List.mem_of_mem_drop ht))
      have hifs : Ifaces (vs.drop r) := fun v hv => hst.ifaces v (List.mem_of_mem_drop hv)
      have HX0 := Lib.hid hbx0
      have HX1 := Lib.hid hbx1
      clear hbx0 hbx1
      by_cases hcap : r = sc
      · subst hcap
        obtain rfl : q = 0 := by omega
        have hrow' : RowV (wr.alloc (.cells #[.int .i64 x, .int .i64 y] 94)) (fun _ => True) sa 0 (vs.drop r) := ⟨hrow.1, fun h => absurd h (by omega)⟩
        go_wp2_with fail
        refine (takes_any _ _).mono ?_
        rintro e w1 ⟨rfl, rfl⟩
        rw [HQ.out]
        go_wp2_with fail
        refine (clone_any _ _ _ _ (vs.drop r) _ hrow' hifs (by omega)).mono ?_
        rintro e w2 ⟨ta, tc, rfl, hrow2, hb2⟩
        have hst2 := hst1.below hb2
        have hx0 : w2.cell? ⟨wr.heap.size, 0, none⟩ = some (.int .i64 x) := (hb2.cell (by simp)).trans HX0.out
        have hx1 : w2.cell? ⟨wr.heap.size, 1, none⟩ = some (.int .i64 y) := (hb2.cell (by simp)).trans HX1.out
        have hrowF : RowV w2 (Av sa (r + 0) r) ta 0 (vs.drop r) := hrow2.keep (fun b _ _ hF _ => ⟨rfl, fun e => by have := (hst.1.lt b e.symm).2; have := hF; simp at this; omega⟩)
        have hkF : ∀ i, i < 0 → IsTree w2.drew (Av sa (r + 0) r) ((vs.drop r).getD i .nilIface) (((stackOf (ts.take k)).drop r).getD i default) := fun i hi => by
          have := (hst2.2.2 (r + i) (by omega)).keep (w' := w2.drew) (F' := Av sa (r + 0) r) (fun _ _ _ hF _ => ⟨rfl, hF⟩)
          rw [List.getD_eq_getElem?_getD, List.getD_eq_getElem?_getD] at this ⊢
          rw [List.getElem?_drop, List.getElem?_drop]
          exact this
        have HKF := Lib.hid hkF
        have hkl : ((stackOf (ts.take k)).drop r).length = 0 := by rw [List.length_drop, hst2.2.1]; omega
        have HKL := Lib.hid hkl
        have hown2 : Hid (∀ (w3 : World) (o : Obj), Below w2.heap.size w2 w3 → (w3.alloc o).ownsRow w.heap.size 143 1 (.slice sa r r) r (vs.take r)) := fun w3 o hb => (own_cutG (hst2.below hb).1).alloc o
        clear hrow hrow' HX0 HX1 hst1 hc1 hc2 hkF hkl hrow2
        obtain ⟨i0, hi0, hz0, hz1, hz2⟩ := info_parts info_tree
        have HI0 := Lib.hid hi0
        have HZ0 := Lib.hid hz0
        have HZ1 := Lib.hid hz1
        have HZ2 := Lib.hid hz2
        clear hi0 hz0 hz1 hz2
        have hi1 : (0 : Int) ≤ (r : Int) := by omega
        have HNE : Hid (some wr.heap.size ≠ (Value.slice sa r r).ownBlock) := fun e => by have := ((own_cutG hst.1).lt _ e.symm).2; omega
        have hi2 : (r : Int) ≤ (r : Int) := by omega
        have hwlt : wr.heap.size < w2.heap.size := World.block_lt_of_cell? w2 _ hx0
        have hws : w.heap.size ≤ w2.heap.size := by have := hbel.size; omega
        go_wp2_with fail
        go_region_held3 (fun w' => w'.cell? ⟨wr.heap.size, 0, none⟩ = some (.int .i64 x) ∧ w'.cell? ⟨wr.heap.size, 1, none⟩ = some (.int .i64 y)) (first | (refine ⟨?_, ?_⟩ <;> assumption) | go_keep | (refine ⟨?_, ?_⟩ <;> go_keep))
          (first
            | (go_at_call 143; refine (treeUnder_any (Av sa (r + 0) r) x y _ _ _ (vs.drop r) ((stackOf (ts.take k)).drop r) _ (by exact hokN.out) (by exact hrowF) HKL.out (by exact HKF.out)).mono ?_; rintro e w3 ⟨u, z, rfl, hIT, hb3⟩; have hb4 : Below w2.heap.size w2 w3 := below_drew hb3; have hsz3 : w2.heap.size ≤ w3.heap.size := hb4.size; have hy0 : w3.cell? ⟨wr.heap.size, 0, none⟩ = some (.int .i64 x) := (hb3.cell (by exact hwlt)).trans (by exact hx0); have hy1 : w3.cell? ⟨wr.heap.size, 1, none⟩ = some (.int .i64 y) := (hb3.cell (by exact hwlt)).trans (by exact hx1))
            | (refine step_append_lies _ (by rfl) _ _ _ (by rfl) w.heap.size 143 i0 _ 1 16 Try.underlying180 HI0.out HZ0.out HZ1.out HZ2.out rfl (by omega) (.slice sa r r) r (vs.take r) (by rfl) (by exact hown2.out w3 _ hb4) ⟨w3.heap.size, 0, none⟩ 1 1 [.iface u z] (by rfl) (by rfl) (World.news_of_block (cs := #[.iface u z]) (t := 143) (fr := (0, 0)) (heap_alloc_new w3 _)) (by simp [Value.oneCell']) (by omega) (by unfold maxLen; omega) (by omega) (by simp; omega) (w3.heap.size + 1) (by simp) ?_; intro g cap w4 hown4 hgrow hat hlt4; have hz0' : w4.cell? ⟨wr.heap.size, 0, none⟩ = some (.int .i64 x) := (hgrow.cell_far ⟨wr.heap.size, 0, none⟩ (by simp; omega) (HNE.out)).trans ((World.cell?_alloc_lt w3 _ _ (by simp; omega)).trans hy0); have hz1' : w4.cell? ⟨wr.heap.size, 1, none⟩ = some (.int .i64 y) := (hgrow.cell_far ⟨wr.heap.size, 1, none⟩ (by simp; omega) (HNE.out)).trans ((World.cell?_alloc_lt w3 _ _ (by simp; omega)).trans hy1)))
        have hst4 := stack_push hst2 hb4 hgrow hat hown4 hIT
        have hbel4 : Below w.heap.size w w4 := ((((hbel.alloc hbel.size _).trans (hb2.mono (by simp; have := hbel.size; omega))).trans (hb4.mono hws)).alloc (by omega) _).grown hgrow (by simp; omega) (fun g' hg' => ((own_cutG hst.1).lt g' hg').1)
        have HS4 : Hid (stackOf (ts.take (k + 1)) = (stackOf (ts.take k)).take r ++ [.node x y ((stackOf (ts.take k)).drop r)]) := by
          show _ = _
          rw [hS.out]
          unfold stepS
          simp only []
          rw [HQ.out, hst.2.1, Int.toNat_natCast, Nat.add_sub_cancel]
        clear hst2 hb4 hgrow hat hown4 hIT hst hy0 hy1 hz0' hz1' hx0 hx1
        go_wp2
        go_roundw
        case rel => exact ⟨k + 1, some ⟨g, 0, none⟩, r + 1, cap, vs.take r ++ [.iface u z], by omega, by omega, by go_num, rfl, by rw [HS4.out]; exact hst4, hbel4⟩
        case measure => simp [intOf]; omega
      · go_wp2_with fail
        refine (takes_any _ _).mono ?_
        rintro e w1 ⟨rfl, rfl⟩
        rw [HQ.out]
        go_wp2_with fail
        refine (clone_any _ _ _ _ (vs.drop r) _ hrow hifs (by omega)).mono ?_
        rintro e w2 ⟨ta, tc, rfl, hrow2, hb2⟩
        have hst2 := hst1.below hb2
        have hx0 : w2.cell? ⟨wr.heap.size, 0, none⟩ = some (.int .i64 x) := (hb2.cell (by simp)).trans HX0.out
        have hx1 : w2.cell? ⟨wr.heap.size, 1, none⟩ = some (.int .i64 y) := (hb2.cell (by simp)).trans HX1.out
        have hrowF : RowV w2 (Av sa (r + q) sc) ta q (vs.drop r) := hrow2.keep (fun b _ _ hF _ => ⟨rfl, fun e => by have := (hst.1.lt b e.symm).2; have := hF; simp at this; omega⟩)
        have hkF : ∀ i, i < q → IsTree w2.drew (Av sa (r + q) sc) ((vs.drop r).getD i .nilIface) (((stackOf (ts.take k)).drop r).getD i default) := fun i hi => by
          have := (hst2.2.2 (r + i) (by omega)).keep (w' := w2.drew) (F' := Av sa (r + q) sc) (fun _ _ _ hF _ => ⟨rfl, hF⟩)
          rw [List.getD_eq_getElem?_getD, List.getD_eq_getElem?_getD] at this ⊢
          rw [List.getElem?_drop, List.getElem?_drop]
          exact this
        have HKF := Lib.hid hkF
        have hkl : ((stackOf (ts.take k)).drop r).length = q := by rw [List.length_drop, hst2.2.1]; omega
        have HKL := Lib.hid hkl
        have hown2 : Hid (∀ (w3 : World) (o : Obj), Below w2.heap.size w2 w3 → (w3.alloc o).ownsRow w.heap.size 143 1 (.slice sa r sc) r (vs.take r)) := fun w3 o hb => (own_cutG (hst2.below hb).1).alloc o
        clear hrow HX0 HX1 hst1 hc1 hc2 hkF hkl hrow2
        obtain ⟨i0, hi0, hz0, hz1, hz2⟩ := info_parts info_tree
        have HI0 := Lib.hid hi0
        have HZ0 := Lib.hid hz0
        have HZ1 := Lib.hid hz1
        have HZ2 := Lib.hid hz2
        clear hi0 hz0 hz1 hz2
        have hi1 : (0 : Int) ≤ (r : Int) := by omega
        have HNE : Hid (some wr.heap.size ≠ (Value.slice sa r sc).ownBlock) := fun e => by have := ((own_cutG hst.1).lt _ e.symm).2; omega
        have hi2 : (r : Int) ≤ (sc : Int) := by omega
        have hwlt : wr.heap.size < w2.heap.size := World.block_lt_of_cell? w2 _ hx0
        have hws : w.heap.size ≤ w2.heap.size := by have := hbel.size; omega
        go_wp2_with fail
        go_region_held3 (fun w' => w'.cell? ⟨wr.heap.size, 0, none⟩ = some (.int .i64 x) ∧ w'.cell? ⟨wr.heap.size, 1, none⟩ = some (.int .i64 y)) (first | (refine ⟨?_, ?_⟩ <;> assumption) | go_keep | (refine ⟨?_, ?_⟩ <;> go_keep))
          (first
            | (go_at_call 143; refine (treeUnder_any (Av sa (r + q) sc) x y _ _ _ (vs.drop r) ((stackOf (ts.take k)).drop r) _ (by exact hokN.out) (by exact hrowF) HKL.out (by exact HKF.out)).mono ?_; rintro e w3 ⟨u, z, rfl, hIT, hb3⟩; have hb4 : Below w2.heap.size w2 w3 := below_drew hb3; have hsz3 : w2.heap.size ≤ w3.heap.size := hb4.size; have hy0 : w3.cell? ⟨wr.heap.size, 0, none⟩ = some (.int .i64 x) := (hb3.cell (by exact hwlt)).trans (by exact hx0); have hy1 : w3.cell? ⟨wr.heap.size, 1, none⟩ = some (.int .i64 y) := (hb3.cell (by exact hwlt)).trans (by exact hx1))
            | (refine step_append_lies _ (by rfl) _ _ _ (by rfl) w.heap.size 143 i0 _ 1 16 Try.underlying180 HI0.out HZ0.out HZ1.out HZ2.out rfl (by omega) (.slice sa r sc) r (vs.take r) (by rfl) (by exact hown2.out w3 _ hb4) ⟨w3.heap.size, 0, none⟩ 1 1 [.iface u z] (by rfl) (by rfl) (World.news_of_block (cs := #[.iface u z]) (t := 143) (fr := (0, 0)) (heap_alloc_new w3 _)) (by simp [Value.oneCell']) (by omega) (by unfold maxLen; omega) (by omega) (by simp; omega) (w3.heap.size + 1) (by simp) ?_; intro g cap w4 hown4 hgrow hat hlt4; have hz0' : w4.cell? ⟨wr.heap.size, 0, none⟩ = some (.int .i64 x) := (hgrow.cell_far ⟨wr.heap.size, 0, none⟩ (by simp; omega) (HNE.out)).trans ((World.cell?_alloc_lt w3 _ _ (by simp; omega)).trans hy0); have hz1' : w4.cell? ⟨wr.heap.size, 1, none⟩ = some (.int .i64 y) := (hgrow.cell_far ⟨wr.heap.size, 1, none⟩ (by simp; omega) (HNE.out)).trans ((World.cell?_alloc_lt w3 _ _ (by simp; omega)).trans hy1)))
        have hst4 := stack_push hst2 hb4 hgrow hat hown4 hIT
        have hbel4 : Below w.heap.size w w4 := ((((hbel.alloc hbel.size _).trans (hb2.mono (by simp; have := hbel.size; omega))).trans (hb4.mono hws)).alloc (by omega) _).grown hgrow (by simp; omega) (fun g' hg' => ((own_cutG hst.1).lt g' hg').1)
        have HS4 : Hid (stackOf (ts.take (k + 1)) = (stackOf (ts.take k)).take r ++ [.node x y ((stackOf (ts.take k)).drop r)]) := by
          show _ = _
          rw [hS.out]
          unfold stepS
          simp only []
          rw [HQ.out, hst.2.1, Int.toNat_natCast, Nat.add_sub_cancel]
        clear hst2 hb4 hgrow hat hown4 hIT hst hy0 hy1 hz0' hz1' hx0 hx1
        go_wp2
        go_roundw
        case rel => exact ⟨k + 1, some ⟨g, 0, none⟩, r + 1, cap, vs.take r ++ [.iface u z], by omega, by omega, by go_num, rfl, by rw [HS4.out]; exact hst4, hbel4⟩
        case measure => simp [intOf]; omega
    · obtain rfl : n = k := by omega
      have hS1 : stackOf (ts.take n) = [T] := by rw [List.take_of_length_le (by rw [HL.out]; exact Nat.le_refl _), hT.out]
      rw [hS1] at hst
      obtain ⟨ho, hm1, hk1⟩ := hst
      obtain rfl : m = 1 := by simpa using hm1.symm
      have hT0 := (hk1 0 (by omega)).keep (w' := wr) (F' := fun _ => True) (fun _ _ _ _ _ => ⟨rfl, trivial⟩)
      obtain ⟨b0, o0, e0, hb0, hc0⟩ := (rowV_own ho).at_ (k := 0) (by omega)
      subst e0
      obtain ⟨u, z, hv⟩ := hT0.iface
      rw [hv] at hc0 hT0
      have HT0 := Lib.hid hT0
      rw [Nat.add_zero] at hc0
      clear hk1 hS1 hm1 hv hT0 ho
      go_wp2
      go_ret
      exact ⟨u, z, rfl, HT0.out, hbel⟩
end Go.Proofs.Ytmooecbdpfhnlaa
/- Plain mathematics of nested bodies: where a body ends that begins at a place; where a statement's middle and end are. -/
namespace Go.Proofs.Ytmooecbdpfhnlaa

def opAt (ss : List Stm) (i : Nat) : Int := (stAt ss i).op
/-- There is such a statement at this place. -/
def isAt (ss : List Stm) (z op : Int) : Bool := (decide (0 ≤ z) && decide (z ≤ (ss.length : Int) - 1)) && (opAt ss z.toNat == op)
mutual
def blockOf (ss : List Stm) (i : Nat) : Int :=
  if i < ss.length then
    if opAt ss i = 3 ∨ opAt ss i = 9 ∨ opAt ss i = 4 then (i : Int)
    else if opAt ss i = 2 ∨ opAt ss i = 5 ∨ opAt ss i = 8 then
      if _h : (i : Int) ≤ (endOf ss i).2 then blockOf ss ((endOf ss i).2.toNat + 1) else -1
    else blockOf ss (i + 1)
  else (i : Int)
termination_by (ss.length - i, 1)
decreasing_by
  · exact Prod.Lex.right _ (by omega)
  · exact Prod.Lex.left _ _ (by omega)
  · exact Prod.Lex.left _ _ (by omega)
def endOf (ss : List Stm) (i : Nat) : Int × Int :=
  if i < ss.length then
    if opAt ss i = 5 then
      if isAt ss (blockOf ss (i + 1)) 4 then (-1, blockOf ss (i + 1)) else (-1, -1)
    else if opAt ss i = 2 then
      if isAt ss (blockOf ss (i + 1)) 4 then (-1, blockOf ss (i + 1))
      else if _h : isAt ss (blockOf ss (i + 1)) 3 = true ∧ i < (blockOf ss (i + 1)).toNat then
        if isAt ss (blockOf ss ((blockOf ss (i + 1)).toNat + 1)) 4 then (blockOf ss (i + 1), blockOf ss ((blockOf ss (i + 1)).toNat + 1)) else (-1, -1)
      else (-1, -1)
    else if opAt ss i = 8 then
      if _h : isAt ss (blockOf ss (i + 1)) 9 = true ∧ i < (blockOf ss (i + 1)).toNat then
        if isAt ss (blockOf ss ((blockOf ss (i + 1)).toNat + 1)) 4 then (blockOf ss (i + 1), blockOf ss ((blockOf ss (i + 1)).toNat + 1)) else (-1, -1)
      else (-1, -1)
    else (-1, -1)
  else (-1, -1)
termination_by (ss.length - i, 0)
decreasing_by all_goals exact Prod.Lex.left _ _ (by omega)
end

theorem isAt_range {ss : List Stm} {z op : Int} (h : isAt ss z op = true) : 0 ≤ z ∧ z < ss.length := by
  simp only [isAt, Bool.and_eq_true, decide_eq_true_eq] at h
  omega
/-- Where a body ends that begins at i: in it or just behind it, or it is not well nested. -/
def BlockIn (ss : List Stm) (i : Nat) (z : Int) : Prop := z = -1 ∨ ((i : Int) ≤ z ∧ z ≤ ss.length)
/-- An end lies behind its beginning, its middle between. -/
def EndIn (ss : List Stm) (i : Nat) (p : Int × Int) : Prop := p = (-1, -1) ∨ ((i : Int) < p.2 ∧ p.2 < ss.length ∧ (p.1 = -1 ∨ ((i : Int) < p.1 ∧ p.1 < p.2)))
theorem block_step {ss : List Stm} {i : Nat} (hi : i ≤ ss.length) (he : i < ss.length → EndIn ss i (endOf ss i)) (hb : ∀ j, i < j → j ≤ ss.length → BlockIn ss j (blockOf ss j)) : BlockIn ss i (blockOf ss i) := by
  rw [blockOf]
  by_cases h : i < ss.length
  · rw [if_pos h]
    split
    · exact .inr ⟨by omega, by omega⟩
    · split
      · split
        · rename_i hle
          rcases he h with e | e
          · rw [e] at hle; simp only [] at hle; omega
          · rcases hb ((endOf ss i).2.toNat + 1) (by omega) (by omega) with q | q
            · exact .inl q
            · exact .inr (by omega)
        · exact .inl rfl
      · rcases hb (i + 1) (by omega) (by omega) with q | q
        · exact .inl q
        · exact .inr (by omega)
  · rw [if_neg h]
    exact .inr ⟨by omega, by omega⟩
theorem end_step {ss : List Stm} {i : Nat} (hi : i < ss.length) (hb : ∀ j, i < j → j ≤ ss.length → BlockIn ss j (blockOf ss j)) : EndIn ss i (endOf ss i) := by
  have h1 := hb (i + 1) (by omega) (by omega)
  rw [endOf, if_pos hi]
  generalize blockOf ss (i + 1) = m at h1
  have fin : ∀ op, isAt ss m op = true → (i : Int) < m ∧ m < ss.length := fun op h => by
    have := isAt_range h
    rcases h1 with q | q <;> omega
  have two : ∀ op, isAt ss m op = true → isAt ss (blockOf ss (m.toNat + 1)) 4 = true → EndIn ss i (m, blockOf ss (m.toNat + 1)) := fun op ho h => by
    have q1 := fin op ho
    have q2 := isAt_range h
    rcases hb (m.toNat + 1) (by omega) (by omega) with q | q
    · exact absurd q (by omega)
    · exact .inr ⟨by simp only []; omega, by simp only []; omega, .inr ⟨by simp only []; omega, by simp only []; omega⟩⟩
  have one : ∀ op, isAt ss m op = true → EndIn ss i (-1, m) := fun op ho => by
    have q1 := fin op ho
    exact .inr ⟨q1.1, q1.2, .inl rfl⟩
  split
  · split
    · rename_i h; exact one 4 h
    · exact .inl rfl
  · split
    · split
      · rename_i h; exact one 4 h
      · split
        · rename_i h
          split
          · rename_i h2; exact two 3 h.1 h2
          · exact .inl rfl
        · exact .inl rfl
    · split
      · split
        · rename_i h
          split
          · rename_i h2; exact two 9 h.1 h2
          · exact .inl rfl
        · exact .inl rfl
      · exact .inl rfl
theorem nest_in (ss : List Stm) : ∀ (d i : Nat), ss.length - i ≤ d → i ≤ ss.length → BlockIn ss i (blockOf ss i) ∧ (i < ss.length → EndIn ss i (endOf ss i))
  | 0, i, hd, hi => ⟨block_step hi (fun h => absurd h (by omega)) (fun j h1 h2 => absurd h1 (by omega)), fun h => absurd h (by omega)⟩
  | d + 1, i, hd, hi => by
    have hb : ∀ j, i < j → j ≤ ss.length → BlockIn ss j (blockOf ss j) := fun j h1 h2 => (nest_in ss d j (by omega) h2).1
    exact ⟨block_step hi (fun h => end_step h hb) hb, fun h => end_step h hb⟩
theorem block_in (ss : List Stm) {i : Nat} (h : i ≤ ss.length) : BlockIn ss i (blockOf ss i) := (nest_in ss _ i (Nat.le_refl _) h).1
theorem end_in (ss : List Stm) {i : Nat} (h : i < ss.length) : EndIn ss i (endOf ss i) := (nest_in ss _ i (Nat.le_refl _) (by omega)).2 h
/-! The equations, case by case. -/
section
variable {ss : List Stm} {i : Nat}
theorem block_past (h : ss.length ≤ i) : blockOf ss i = i := by rw [blockOf, if_neg (by omega)]
theorem block_stop (h : i < ss.length) (ho : opAt ss i = 3 ∨ opAt ss i = 9 ∨ opAt ss i = 4) : blockOf ss i = i := by rw [blockOf, if_pos h, if_pos ho]
theorem block_next (h : i < ss.length) (ho : ¬ (opAt ss i = 3 ∨ opAt ss i = 9 ∨ opAt ss i = 4)) (ho2 : ¬ (opAt ss i = 2 ∨ opAt ss i = 5 ∨ opAt ss i = 8)) : blockOf ss i = blockOf ss (i + 1) := by
  rw [blockOf, if_pos h, if_neg ho, if_neg ho2]
theorem block_bad (h : i < ss.length) (ho : opAt ss i = 2 ∨ opAt ss i = 5 ∨ opAt ss i = 8) (he : (endOf ss i).2 < 0) : blockOf ss i = -1 := by
  rw [blockOf, if_pos h, if_neg (by omega), if_pos ho, dif_neg (by omega)]
theorem block_over (h : i < ss.length) (ho : opAt ss i = 2 ∨ opAt ss i = 5 ∨ opAt ss i = 8) (he : 0 ≤ (endOf ss i).2) : blockOf ss i = blockOf ss ((endOf ss i).2.toNat + 1) := by
  have := end_in ss h
  have hle : (i : Int) ≤ (endOf ss i).2 := by
    rcases this with e | e
    · rw [e] at he; simp only [] at he; omega
    · omega
  rw [blockOf, if_pos h, if_neg (by omega), if_pos ho, dif_pos hle]
end
end Go.Proofs.Ytmooecbdpfhnlaa
/- Plain mathematics of steps: what a well nested part of a body takes, and that it is no great number. -/
namespace Go.Proofs.Ytmooecbdpfhnlaa

/-- The part [i, j) takes s steps. -/
inductive Steps (ss : List Stm) : Nat → Nat → Nat → Prop where
  | nil (i : Nat) : Steps ss i i 0
  | plain {i j s : Nat} (hi : i < ss.length) (h2 : opAt ss i ≠ 2) (h5 : opAt ss i ≠ 5) (h8 : opAt ss i ≠ 8) (t : Steps ss (i + 1) j s) : Steps ss i j (1 + s)
  | one {i e j s t : Nat} (hi : i < ss.length) (h2 : opAt ss i = 2) (he : endOf ss i = (-1, (e : Int))) (p : Steps ss (i + 1) e s) (q : Steps ss (e + 1) j t) : Steps ss i j (1 + s + t)
  | two {i m e j s s' t : Nat} (hi : i < ss.length) (h2 : opAt ss i = 2) (he : endOf ss i = ((m : Int), (e : Int))) (p : Steps ss (i + 1) m s) (p' : Steps ss (m + 1) e s') (q : Steps ss (e + 1) j t) : Steps ss i j (1 + max s s' + t)
  | loop {i e j k s t : Nat} (hi : i < ss.length) (h5 : opAt ss i = 5) (he : endOf ss i = (-1, (e : Int))) (hk : (stAt ss i).n = (k : Int)) (h4 : k ≤ 4) (p : Steps ss (i + 1) e s) (q : Steps ss (e + 1) j t) : Steps ss i j (1 + k * (1 + s) + t)
  | attempt {i m e j s s' t : Nat} (hi : i < ss.length) (h8 : opAt ss i = 8) (he : endOf ss i = ((m : Int), (e : Int))) (p : Steps ss (i + 1) m s) (p' : Steps ss (m + 1) e s') (q : Steps ss (e + 1) j t) : Steps ss i j (1 + s + s' + t)

theorem sq_le {a b : Nat} (h : a ≤ b) : a * a ≤ b * b := Nat.mul_le_mul h h
theorem mul_one_le {a b : Nat} (hb : 1 ≤ b) : a ≤ a * b := by
  calc a = a * 1 := (Nat.mul_one a).symm
    _ ≤ a * b := Nat.mul_le_mul_left a hb
/-- Two parts and two statements. -/
theorem grow2 {S T a b x : Nat} (hS : S * S ≤ 6 ^ a) (hT : T * T ≤ 6 ^ b) (h1 : 1 ≤ S) (h2 : 1 ≤ T) (hx : x ≤ 1 + 4 * S + T) : x * x ≤ 6 ^ (a + b + 2) := by
  have e1 : S ≤ S * T := mul_one_le h2
  have e2 : T ≤ S * T := by rw [Nat.mul_comm]; exact mul_one_le h1
  have e3 : x ≤ 6 * (S * T) := by omega
  calc x * x ≤ (6 * (S * T)) * (6 * (S * T)) := sq_le e3
    _ = (S * S) * (T * T) * 36 := by simp only [Nat.mul_comm, Nat.mul_left_comm, Nat.mul_assoc]
    _ ≤ 6 ^ a * 6 ^ b * 36 := Nat.mul_le_mul_right _ (Nat.mul_le_mul hS hT)
    _ = 6 ^ (a + b + 2) := by rw [Nat.pow_add, Nat.pow_add]
theorem grow3 {S U T a b c x : Nat} (hS : S * S ≤ 6 ^ a) (hU : U * U ≤ 6 ^ b) (hT : T * T ≤ 6 ^ c) (h1 : 1 ≤ S) (h2 : 1 ≤ U) (h3 : 1 ≤ T) (hx : x ≤ S + U + T) : x * x ≤ 6 ^ (a + b + c + 3) := by
  have hSU : 1 ≤ S * U := Nat.mul_le_mul h1 h2
  have e0 : S * U ≤ S * U * T := mul_one_le h3
  have e1 : S ≤ S * U := mul_one_le h2
  have e2 : U ≤ S * U := by rw [Nat.mul_comm]; exact mul_one_le h1
  have e3 : T ≤ S * U * T := by rw [Nat.mul_comm]; exact mul_one_le hSU
  have e4 : x ≤ 3 * (S * U * T) := by omega
  calc x * x ≤ (3 * (S * U * T)) * (3 * (S * U * T)) := sq_le e4
    _ = (S * S) * (U * U) * (T * T) * 9 := by simp only [Nat.mul_comm, Nat.mul_left_comm, Nat.mul_assoc]
    _ ≤ 6 ^ a * 6 ^ b * 6 ^ c * 9 := Nat.mul_le_mul_right _ (Nat.mul_le_mul (Nat.mul_le_mul hS hU) hT)
    _ ≤ 6 ^ a * 6 ^ b * 6 ^ c * 6 ^ 3 := Nat.mul_le_mul_left _ (by decide)
    _ = 6 ^ (a + b + c + 3) := by rw [Nat.pow_add, Nat.pow_add, Nat.pow_add]
theorem steps_small {ss : List Stm} {i j s : Nat} (h : Steps ss i j s) : i ≤ j ∧ (s + 1) * (s + 1) ≤ 6 ^ (j - i) := by
  induction h with
  | nil i => exact ⟨Nat.le_refl _, by rw [Nat.sub_self]; decide⟩
  | @plain i j s hi h2 h5 h8 t ih =>
    refine ⟨by omega, ?_⟩
    have := grow2 (S := 1) (T := s + 1) (a := 0) (b := j - (i + 1)) (x := s + 2) (by decide) ih.2 (by omega) (by omega) (by omega)
    have e : (1 + s + 1) = s + 2 := by omega
    rw [e]
    have h4 : (s + 2) * (s + 2) ≤ 4 * ((s + 1) * (s + 1)) := by
      have : s + 2 ≤ 2 * (s + 1) := by omega
      calc (s + 2) * (s + 2) ≤ (2 * (s + 1)) * (2 * (s + 1)) := sq_le this
        _ = 4 * ((s + 1) * (s + 1)) := by simp only [Nat.mul_comm, Nat.mul_left_comm, Nat.mul_assoc]
    have e2 : 6 ^ (j - i) = 6 ^ (j - (i + 1)) * 6 := by rw [← Nat.pow_succ]; congr 1; omega
    rw [e2]
    omega
  | @one i e j s t hi h2 he p q ih1 ih2 =>
    refine ⟨by omega, ?_⟩
    have := grow2 (x := 1 + s + t + 1) ih1.2 ih2.2 (by omega) (by omega) (by omega)
    rwa [show e - (i + 1) + (j - (e + 1)) + 2 = j - i by omega] at this
  | @two i m e j s s' t hi h2 he p p' q ih1 ih2 ih3 =>
    refine ⟨by omega, ?_⟩
    have := grow3 (x := 1 + max s s' + t + 1) ih1.2 ih2.2 ih3.2 (by omega) (by omega) (by omega) (by omega)
    rwa [show m - (i + 1) + (e - (m + 1)) + (j - (e + 1)) + 3 = j - i by omega] at this
  | @loop i e j k s t hi h5 he hk h4 p q ih1 ih2 =>
    refine ⟨by omega, ?_⟩
    have hm : k * (1 + s) ≤ 4 * (1 + s) := Nat.mul_le_mul_right _ h4
    have := grow2 (x := 1 + k * (1 + s) + t + 1) ih1.2 ih2.2 (by omega) (by omega) (by omega)
    rwa [show e - (i + 1) + (j - (e + 1)) + 2 = j - i by omega] at this
  | @attempt i m e j s s' t hi h8 he p p' q ih1 ih2 ih3 =>
    refine ⟨by omega, ?_⟩
    have := grow3 (x := 1 + s + s' + t + 1) ih1.2 ih2.2 ih3.2 (by omega) (by omega) (by omega) (by omega)
    rwa [show m - (i + 1) + (e - (m + 1)) + (j - (e + 1)) + 3 = j - i by omega] at this
theorem steps_bound {ss : List Stm} {i j s : Nat} (h : Steps ss i j s) (h40 : j - i ≤ 40) : s < 3656158440062976 := by
  have := (steps_small h).2
  have h2 : 6 ^ (j - i) ≤ 6 ^ 40 := Nat.pow_le_pow_right (by omega) h40
  rcases Nat.lt_or_ge s 3656158440062976 with hlt | hge
  · exact hlt
  · have h3 : 3656158440062977 * 3656158440062977 ≤ (s + 1) * (s + 1) := sq_le (by omega)
    have h4 : (6 : Nat) ^ 40 < 3656158440062977 * 3656158440062977 := by decide
    omega
end Go.Proofs.Ytmooecbdpfhnlaa
/- The contracts of the model's l3Is, l3Block, l3End, EndOf. -/
namespace Go.Proofs.Ytmooecbdpfhnlaa
open Go.RowKit

theorem Stmts.op {w : World} {a : Option Addr} {n : Nat} {rs : List SRow} {ss : List Stm} (h : Stmts w a n rs ss) {k : Nat} (hk : k < n) :
    ∃ b o x, a = some ⟨b, o, none⟩ ∧ Hid (opAt ss k = x) ∧ In64 x ∧ w.cell? ⟨b, o + k * 4, none⟩ = some (.int .i64 x) := by
  obtain ⟨b, o, x, y, _, _, _, _, _, _, ts, us, rfl, _, hz, hin, _, hc, _⟩ := h.at_ hk
  exact ⟨b, o, x, rfl, Lib.hid (by rw [opAt, hz.out]), hin, hc⟩
set_option maxHeartbeats 800000 in
theorem l3Is_any (a : Option Addr) (n c : Nat) (rs : List SRow) (ss : List Stm) (z op : Int) (w : World) (h : Stmts w a n rs ss) :
    Calls Try.prog 134 #[.slice a n c, .int .i64 z, .int .i64 op] w fun e w' => e = .returned (.bool (isAt ss z op)) ∧ w = w' := by
  have hbd := h.2.2.1
  obtain ⟨R, HR⟩ : ∃ R, Hid (isAt ss z op = R) := ⟨_, rfl⟩
  have hR := HR.out
  simp only [isAt, h.2.1] at hR
  have HRR := Lib.hid hR
  rw [HR.out]
  clear hR HR
  by_cases hz : 0 ≤ z ∧ z ≤ (n : Int) - 1
  · have hin : (decide (0 ≤ z) && decide (z ≤ (n : Int) - 1)) = true := by simpa using hz
    obtain ⟨k, rfl⟩ : ∃ k : Nat, z = (k : Int) := ⟨z.toNat, by omega⟩
    obtain ⟨b, o, x, rfl, hx, hix, hc⟩ := h.op (k := k) (by omega)
    have hlt : k < n := by omega
    go_enter Try.func134, Try.ntmps134
    go_wp2_with (go_at_call 45; refine (in_any _ _ _ _).mono ?_; rintro e w' ⟨rfl, rfl⟩; rw [hin])
    go_ret
    exact ⟨ret_bool (by rw [← HRR.out, hin, Int.toNat_natCast, hx.out]; rfl), rfl⟩
  · have hin : (decide (0 ≤ z) && decide (z ≤ (n : Int) - 1)) = false := by rw [← Bool.not_eq_true]; simpa using hz
    go_enter Try.func134, Try.ntmps134
    go_wp2_with (go_at_call 45; refine (in_any _ _ _ _).mono ?_; rintro e w' ⟨rfl, rfl⟩; rw [hin])
    go_ret
    exact ⟨ret_bool (by rw [← HRR.out, hin]; rfl), rfl⟩
/-- The two contracts, at a place. -/
def BlockAt (w : World) (a : Option Addr) (n c : Nat) (ss : List Stm) (i : Nat) : Prop :=
  Calls Try.prog 50 #[.slice a n c, .int .i64 (i : Int)] w fun e w' => e = .returned (.int .i64 (blockOf ss i)) ∧ w = w'
def EndAt (w : World) (a : Option Addr) (n c : Nat) (ss : List Stm) (i : Nat) : Prop :=
  Calls Try.prog 96 #[.slice a n c, .int .i64 (i : Int)] w fun e w' => e = .returned (.tuple #[.int .i64 (endOf ss i).1, .int .i64 (endOf ss i).2]) ∧ w = w'
set_option maxHeartbeats 1600000 in
theorem block_at (w : World) (a : Option Addr) (n c : Nat) (rs : List SRow) (ss : List Stm) (h : Stmts w a n rs ss) (i : Nat) (hi : i ≤ n) (HE : Hid (∀ j, i ≤ j → j < n → EndAt w a n c ss j)) : BlockAt w a n c ss i := by
  have hbd := h.2.2.1
  have HL := Lib.hid h.2.1
  obtain ⟨R, HR⟩ : ∃ R, Hid (blockOf ss i = R) := ⟨_, rfl⟩
  unfold BlockAt
  rw [HR.out]
  go_enter Try.func50, Try.ntmps50
  go_wp2
  go_loop [1] (fun q => ∃ k : Nat, i ≤ k ∧ k ≤ n ∧ q = .int .i64 (k : Int) ∧ Hid (blockOf ss k = R)) (fun q => n - (intOf q).toNat)
  case atStart => exact ⟨i, Nat.le_refl _, hi, rfl, HR⟩
  case round =>
    obtain ⟨k, hik, hk, rfl, hK⟩ := hrel
    by_cases hlt : k < n
    · obtain ⟨b, o, x, rfl, hx, hix, hc⟩ := h.op hlt
      have hl : k < ss.length := by rw [HL.out]; exact hlt
      by_cases hs : x = 3 ∨ x = 9 ∨ x = 4
      · have HQ := Lib.hid (hK.out.symm.trans (block_stop hl (by rw [hx.out]; exact hs)))
        rcases hs with rfl | rfl | rfl <;> (go_wp2; go_ret; exact ⟨ret_int HQ.out.symm, rfl⟩)
      have k3 : (x == 3) = false := by simp; omega
      have k9 : (x == 9) = false := by simp; omega
      have k4 : (x == 4) = false := by simp; omega
      by_cases ho : x = 2 ∨ x = 5 ∨ x = 8
      · have hin := end_in ss hl
        have hp := HE.out k hik hlt
        unfold EndAt at hp
        have HO := Lib.hid (show opAt ss k = 2 ∨ opAt ss k = 5 ∨ opAt ss k = 8 by rw [hx.out]; exact ho)
        obtain ⟨⟨M, E⟩, HP⟩ : ∃ P, Hid (endOf ss k = P) := ⟨_, rfl⟩
        rw [HP.out] at hin hp
        simp only [] at hp
        have HC := Lib.hid hp
        clear hp hs
        by_cases hE : E < 0
        · have HQ := Lib.hid (hK.out.symm.trans (block_bad hl HO.out (by rw [HP.out]; exact hE)))
          clear hin
          rcases ho with rfl | rfl | rfl <;>
          · go_wp2_with fail
            refine HC.out.mono ?_
            rintro e w1 ⟨rfl, rfl⟩
            go_wp2
            go_ret
            exact ⟨ret_int HQ.out.symm, rfl⟩
        · have hE2 : (k : Int) < E ∧ E < n := by
            rcases hin with q | q
            · injection q with q1 q2; omega
            · have := HL.out; simp only [] at q; omega
          obtain ⟨m, rfl⟩ : ∃ m : Nat, E = (m : Int) := ⟨E.toNat, by omega⟩
          have HQ := Lib.hid ((block_over hl HO.out (by rw [HP.out]; exact Int.natCast_nonneg m)).symm.trans hK.out)
          rw [HP.out] at HQ
          simp only [Int.toNat_natCast] at HQ
          clear hin
          rcases ho with rfl | rfl | rfl <;>
          · go_wp2_with fail
            refine HC.out.mono ?_
            rintro e w1 ⟨rfl, rfl⟩
            go_wp2
            go_round
            case rel => exact ⟨m + 1, by omega, by omega, by go_num, HQ⟩
            case measure => simp [intOf]; omega
      · have HQ := Lib.hid ((block_next hl (by rw [hx.out]; exact hs) (by rw [hx.out]; exact ho)).symm.trans hK.out)
        have k2 : (x == 2) = false := by simp; omega
        have k5 : (x == 5) = false := by simp; omega
        have k8 : (x == 8) = false := by simp; omega
        clear hs ho
        go_wp2
        go_round
        case rel => exact ⟨k + 1, by omega, by omega, by go_num, HQ⟩
        case measure => simp [intOf]; omega
    · obtain rfl : n = k := by omega
      have HQ := Lib.hid (hK.out.symm.trans (block_past (by rw [HL.out]; exact Nat.le_refl _)))
      go_wp2
      go_ret
      exact ⟨ret_int HQ.out.symm, rfl⟩
end Go.Proofs.Ytmooecbdpfhnlaa
/- The contracts of the model's l3End, l3Block and EndOf. -/
namespace Go.Proofs.Ytmooecbdpfhnlaa
open Go.RowKit

theorem end_eq {ss : List Stm} {i : Nat} {M : Int} (hi : i < ss.length) (hM : blockOf ss (i + 1) = M) : endOf ss i =
    (if opAt ss i = 5 then (if isAt ss M 4 then (-1, M) else (-1, -1))
     else if opAt ss i = 2 then (if isAt ss M 4 then (-1, M) else if isAt ss M 3 then (if isAt ss (blockOf ss (M.toNat + 1)) 4 then (M, blockOf ss (M.toNat + 1)) else (-1, -1)) else (-1, -1))
     else if opAt ss i = 8 then (if isAt ss M 9 then (if isAt ss (blockOf ss (M.toNat + 1)) 4 then (M, blockOf ss (M.toNat + 1)) else (-1, -1)) else (-1, -1))
     else (-1, -1)) := by
  have hb := block_in ss (i := i + 1) (by omega)
  rw [hM] at hb
  have hlt : ∀ op, isAt ss M op = true → i < M.toNat := fun op h => by
    have := isAt_range h
    rcases hb with q | q <;> omega
  rw [endOf, if_pos hi, hM]
  by_cases h3 : isAt ss M 3 = true
  · rw [dif_pos ⟨h3, hlt 3 h3⟩, if_pos h3]
    by_cases h9 : isAt ss M 9 = true
    · rw [dif_pos ⟨h9, hlt 9 h9⟩, if_pos h9]
    · rw [dif_neg (fun h => h9 h.1), if_neg h9]
  · rw [dif_neg (fun h => h3 h.1), if_neg h3]
    by_cases h9 : isAt ss M 9 = true
    · rw [dif_pos ⟨h9, hlt 9 h9⟩, if_pos h9]
    · rw [dif_neg (fun h => h9 h.1), if_neg h9]
theorem ret_two {x y : Int} {p : Int × Int} (h : p = (x, y)) : Ending.returned (.tuple #[.int .i64 x, .int .i64 y]) = .returned (.tuple #[.int .i64 p.1, .int .i64 p.2]) := by rw [h]

set_option maxHeartbeats 3200000 in
theorem end_at (w : World) (a : Option Addr) (n c : Nat) (rs : List SRow) (ss : List Stm) (h : Stmts w a n rs ss) (i : Nat) (hi : i < n) (HB : Hid (∀ j, i < j → j ≤ n → BlockAt w a n c ss j)) : EndAt w a n c ss i := by
  have hbd := h.2.2.1
  have hl : i < ss.length := by rw [h.2.1]; exact hi
  obtain ⟨M, HM⟩ : ∃ M, Hid (blockOf ss (i + 1) = M) := ⟨_, rfl⟩
  have HQ := Lib.hid (end_eq hl HM.out)
  have hb := HB.out (i + 1) (by omega) (by omega)
  unfold BlockAt at hb
  rw [HM.out, show ((i + 1 : Nat) : Int) = (i : Int) + 1 by omega] at hb
  have HC := Lib.hid hb
  have hM := block_in ss (i := i + 1) (by omega)
  rw [HM.out] at hM
  have hM2 : M = -1 ∨ ((i : Int) + 1 ≤ M ∧ M ≤ n) := by
    have := h.2.1
    rcases hM with q | q
    · exact .inl q
    · exact .inr (by omega)
  have HS := Lib.hid h
  have HI : Hid (∀ z op : Int, Calls Try.prog 134 #[.slice a n c, .int .i64 z, .int .i64 op] w fun e w' => e = .returned (.bool (isAt ss z op)) ∧ w = w') := Lib.hid (fun z op => l3Is_any a n c rs ss z op w h)
  clear hb hM
  unfold EndAt
  obtain ⟨b, o, x, rfl, hx, hix, hc⟩ := h.op hi
  rw [hx.out] at HQ
  clear h
  obtain ⟨A4, H4⟩ : ∃ A4, Hid (isAt ss M 4 = A4) := ⟨_, rfl⟩
  obtain ⟨A3, H3⟩ : ∃ A3, Hid (isAt ss M 3 = A3) := ⟨_, rfl⟩
  obtain ⟨A9, H9⟩ : ∃ A9, Hid (isAt ss M 9 = A9) := ⟨_, rfl⟩
  obtain ⟨E, HE⟩ : ∃ E, Hid (blockOf ss (M.toNat + 1) = E) := ⟨_, rfl⟩
  obtain ⟨B4, HB4⟩ : ∃ B4, Hid (isAt ss E 4 = B4) := ⟨_, rfl⟩
  simp only [H4.out, H3.out, H9.out, HE.out, HB4.out] at HQ
  have two : Hid (∀ op, isAt ss M op = true → Calls Try.prog 50 #[.slice (some ⟨b, o, none⟩) n c, .int .i64 (M + 1)] w fun e w' => e = .returned (.int .i64 E) ∧ w = w') := Lib.hid (fun op ho => by
    have hr := isAt_range ho
    have hlen := HS.out.2.1
    have hb := HB.out (M.toNat + 1) (by omega) (by omega)
    unfold BlockAt at hb
    rw [HE.out, show ((M.toNat + 1 : Nat) : Int) = M + 1 by omega] at hb
    exact hb)
  by_cases h5 : x = 5
  · subst h5
    simp only [if_true] at HQ
    cases A4 with
    | true =>
      go_enter Try.func96, Try.ntmps96
      go_wp2_with (first | (go_at_call 50; refine HC.out.mono ?_; rintro e w' ⟨rfl, rfl⟩) | (go_at_call 134; refine (HI.out _ _).mono ?_; rintro e w' ⟨rfl, rfl⟩; first | rw [H4.out]))
      go_ret2
      exact ⟨ret_two HQ.out, rfl⟩
    | false =>
      go_enter Try.func96, Try.ntmps96
      go_wp2_with (first | (go_at_call 50; refine HC.out.mono ?_; rintro e w' ⟨rfl, rfl⟩) | (go_at_call 134; refine (HI.out _ _).mono ?_; rintro e w' ⟨rfl, rfl⟩; first | rw [H4.out]))
      go_ret2
      exact ⟨ret_two HQ.out, rfl⟩
  rw [if_neg h5] at HQ
  by_cases h2 : x = 2
  · subst h2
    clear h5
    rw [if_pos rfl] at HQ
    cases A4 with
    | true =>
      go_enter Try.func96, Try.ntmps96
      go_wp2_with (first | (go_at_call 50; refine HC.out.mono ?_; rintro e w' ⟨rfl, rfl⟩) | (go_at_call 134; refine (HI.out _ _).mono ?_; rintro e w' ⟨rfl, rfl⟩; first | rw [H4.out]))
      go_ret2
      exact ⟨ret_two HQ.out, rfl⟩
    | false =>
      cases A3 with
      | false =>
        go_enter Try.func96, Try.ntmps96
        go_wp2_with (first | (go_at_call 50; refine HC.out.mono ?_; rintro e w' ⟨rfl, rfl⟩) | (go_at_call 134; refine (HI.out _ _).mono ?_; rintro e w' ⟨rfl, rfl⟩; first | rw [H4.out] | rw [H3.out]))
        go_ret2
        exact ⟨ret_two HQ.out, rfl⟩
      | true =>
        have HT := Lib.hid (two.out 3 H3.out)
        have hr := isAt_range H3.out
        have hM3 : 0 ≤ M ∧ M < n := by have := HS.out.2.1; omega
        clear hr
        cases B4 with
        | true =>
          go_enter Try.func96, Try.ntmps96
          go_wp2_with (first | (go_at_call 50; first | (with_reducible refine HC.out.mono ?_; rintro e w' ⟨rfl, rfl⟩) | (with_reducible refine HT.out.mono ?_; rintro e w' ⟨rfl, rfl⟩)) | (go_at_call 134; refine (HI.out _ _).mono ?_; rintro e w' ⟨rfl, rfl⟩; first | rw [H4.out] | rw [H3.out] | rw [HB4.out]))
          go_ret2
          exact ⟨ret_two HQ.out, rfl⟩
        | false =>
          go_enter Try.func96, Try.ntmps96
          go_wp2_with (first | (go_at_call 50; first | (with_reducible refine HC.out.mono ?_; rintro e w' ⟨rfl, rfl⟩) | (with_reducible refine HT.out.mono ?_; rintro e w' ⟨rfl, rfl⟩)) | (go_at_call 134; refine (HI.out _ _).mono ?_; rintro e w' ⟨rfl, rfl⟩; first | rw [H4.out] | rw [H3.out] | rw [HB4.out]))
          go_ret2
          exact ⟨ret_two HQ.out, rfl⟩
  rw [if_neg h2] at HQ
  by_cases h8 : x = 8
  · subst h8
    clear h5 h2
    rw [if_pos rfl] at HQ
    cases A9 with
    | false =>
      go_enter Try.func96, Try.ntmps96
      go_wp2_with (first | (go_at_call 50; refine HC.out.mono ?_; rintro e w' ⟨rfl, rfl⟩) | (go_at_call 134; refine (HI.out _ _).mono ?_; rintro e w' ⟨rfl, rfl⟩; first | rw [H9.out]))
      go_ret2
      exact ⟨ret_two HQ.out, rfl⟩
    | true =>
      have HT := Lib.hid (two.out 9 H9.out)
      have hr := isAt_range H9.out
      have hM3 : 0 ≤ M ∧ M < n := by have := HS.out.2.1; omega
      clear hr
      cases B4 with
      | true =>
        go_enter Try.func96, Try.ntmps96
        go_wp2_with (first | (go_at_call 50; first | (with_reducible refine HC.out.mono ?_; rintro e w' ⟨rfl, rfl⟩) | (with_reducible refine HT.out.mono ?_; rintro e w' ⟨rfl, rfl⟩)) | (go_at_call 134; refine (HI.out _ _).mono ?_; rintro e w' ⟨rfl, rfl⟩; first | rw [H9.out] | rw [HB4.out]))
        go_ret2
        exact ⟨ret_two HQ.out, rfl⟩
      | false =>
        go_enter Try.func96, Try.ntmps96
        go_wp2_with (first | (go_at_call 50; first | (with_reducible refine HC.out.mono ?_; rintro e w' ⟨rfl, rfl⟩) | (with_reducible refine HT.out.mono ?_; rintro e w' ⟨rfl, rfl⟩)) | (go_at_call 134; refine (HI.out _ _).mono ?_; rintro e w' ⟨rfl, rfl⟩; first | rw [H9.out] | rw [HB4.out]))
        go_ret2
        exact ⟨ret_two HQ.out, rfl⟩
  rw [if_neg h8] at HQ
  have k5 : (x == 5) = false := by simpa using h5
  have k2 : (x == 2) = false := by simpa using h2
  have k8 : (x == 8) = false := by simpa using h8
  clear h5 h2 h8
  go_enter Try.func96, Try.ntmps96
  go_wp2_with (first | (go_at_call 50; refine HC.out.mono ?_; rintro e w' ⟨rfl, rfl⟩) | (go_at_call 134; refine (HI.out _ _).mono ?_; rintro e w' ⟨rfl, rfl⟩; first | rw [H4.out]))
  go_ret2
  exact ⟨ret_two HQ.out, rfl⟩
theorem nest_at (w : World) (a : Option Addr) (n c : Nat) (rs : List SRow) (ss : List Stm) (h : Stmts w a n rs ss) : ∀ (d i : Nat), n - i ≤ d → i ≤ n → BlockAt w a n c ss i ∧ (i < n → EndAt w a n c ss i)
  | 0, i, hd, hi => ⟨block_at w a n c rs ss h i hi (Lib.hid (fun j h1 h2 => absurd h2 (by omega))), fun h' => absurd h' (by omega)⟩
  | d + 1, i, hd, hi => by
    have hb : ∀ j, i < j → j ≤ n → BlockAt w a n c ss j := fun j h1 h2 => (nest_at w a n c rs ss h d j (by omega) h2).1
    have he : ∀ j, i < j → j < n → EndAt w a n c ss j := fun j h1 h2 => (nest_at w a n c rs ss h d j (by omega) (by omega)).2 h2
    have hei : i < n → EndAt w a n c ss i := fun h' => end_at w a n c rs ss h i h' (Lib.hid hb)
    refine ⟨block_at w a n c rs ss h i hi (Lib.hid (fun j h1 h2 => ?_)), hei⟩
    rcases Nat.lt_or_ge i j with hlt | hge
    · exact he j hlt h2
    · obtain rfl : i = j := by omega
      exact hei h2
theorem l3Block_any (a : Option Addr) (n c : Nat) (rs : List SRow) (ss : List Stm) (i : Nat) (w : World) (h : Stmts w a n rs ss) (hi : i ≤ n) :
    Calls Try.prog 50 #[.slice a n c, .int .i64 (i : Int)] w fun e w' => e = .returned (.int .i64 (blockOf ss i)) ∧ w = w' := (nest_at w a n c rs ss h _ i (Nat.le_refl _) hi).1
theorem l3End_any (a : Option Addr) (n c : Nat) (rs : List SRow) (ss : List Stm) (i : Nat) (w : World) (h : Stmts w a n rs ss) (hi : i < n) :
    Calls Try.prog 96 #[.slice a n c, .int .i64 (i : Int)] w fun e w' => e = .returned (.tuple #[.int .i64 (endOf ss i).1, .int .i64 (endOf ss i).2]) ∧ w = w' := (nest_at w a n c rs ss h _ i (Nat.le_refl _) (by omega)).2 hi
end Go.Proofs.Ytmooecbdpfhnlaa
/- A well nested part takes some steps; the contract of the model's l3Steps. -/
namespace Go.Proofs.Ytmooecbdpfhnlaa
open Go.RowKit

/-- The loops' numbers are from 0 to 4. -/
def LoopsOk (ss : List Stm) : Prop := ∀ i, i < ss.length → opAt ss i = 5 → ∃ k : Nat, k ≤ 4 ∧ (stAt ss i).n = (k : Int)
/-- A body that ends at j takes some steps up to there. -/
theorem part_steps {ss : List Stm} (hL : LoopsOk ss) : ∀ (d i j : Nat), ss.length - i ≤ d → i ≤ ss.length → blockOf ss i = (j : Int) → ∃ s, Steps ss i j s
  | 0, i, j, hd, hi, hb => by
    rw [block_past (by omega)] at hb
    obtain rfl : i = j := by omega
    exact ⟨0, .nil i⟩
  | d + 1, i, j, hd, hi, hb => by
    by_cases hlt : i < ss.length
    case neg =>
      rw [block_past (by omega)] at hb
      obtain rfl : i = j := by omega
      exact ⟨0, .nil i⟩
    by_cases hs : opAt ss i = 3 ∨ opAt ss i = 9 ∨ opAt ss i = 4
    · rw [block_stop hlt hs] at hb
      obtain rfl : i = j := by omega
      exact ⟨0, .nil i⟩
    by_cases ho : opAt ss i = 2 ∨ opAt ss i = 5 ∨ opAt ss i = 8
    case neg =>
      rw [block_next hlt hs ho] at hb
      obtain ⟨s, h⟩ := part_steps hL d (i + 1) j (by omega) (by omega) hb
      exact ⟨_, .plain hlt (fun h => ho (.inl h)) (fun h => ho (.inr (.inl h))) (fun h => ho (.inr (.inr h))) h⟩
    have hin := end_in ss hlt
    by_cases he : (endOf ss i).2 < 0
    · rw [block_bad hlt ho he] at hb
      omega
    rw [block_over hlt ho (by omega)] at hb
    obtain ⟨M, hM⟩ : ∃ M, blockOf ss (i + 1) = M := ⟨_, rfl⟩
    have heq := end_eq hlt hM
    obtain ⟨⟨p1, p2⟩, hP⟩ : ∃ P, endOf ss i = P := ⟨_, rfl⟩
    rw [hP] at hin he hb heq
    simp only [] at he hb
    have hin2 : (i : Int) < p2 ∧ p2 < ss.length ∧ (p1 = -1 ∨ ((i : Int) < p1 ∧ p1 < p2)) := by
      rcases hin with q | q
      · injection q with q1 q2; omega
      · exact q
    obtain ⟨e, rfl⟩ : ∃ e : Nat, p2 = (e : Int) := ⟨p2.toNat, by omega⟩
    rw [Int.toNat_natCast] at hb
    obtain ⟨t, ht⟩ := part_steps hL d (e + 1) j (by omega) (by omega) hb
    have one : p1 = -1 → M = (e : Int) → ∃ s, Steps ss (i + 1) e s := fun _ h => part_steps hL d (i + 1) e (by omega) (by omega) (hM.trans h)
    have neg : ¬ ((e : Int) = -1) := by omega
    have two : ∀ m : Nat, M = (m : Int) → (i : Int) < m → m < ss.length → blockOf ss (M.toNat + 1) = (e : Int) → (∃ s, Steps ss (i + 1) m s) ∧ ∃ s, Steps ss (m + 1) e s := fun m h1 h2 h3 h4 => by
      rw [h1, Int.toNat_natCast] at h4
      exact ⟨part_steps hL d (i + 1) m (by omega) (by omega) (hM.trans h1), part_steps hL d (m + 1) e (by omega) (by omega) h4⟩
    rcases ho with ho | ho | ho
    · rw [ho, if_neg (by decide), if_pos rfl] at heq
      split at heq
      · injection heq with e1 e2
        obtain ⟨s, h⟩ := one e1 e2.symm
        exact ⟨_, .one hlt ho (by rw [hP, e1]) h ht⟩
      · split at heq
        · split at heq
          · injection heq with e1 e2
            rename_i hm _
            have hr := isAt_range hm
            have hb' := block_in ss (i := i + 1) (by omega)
            rw [hM] at hb'
            obtain ⟨m, rfl⟩ : ∃ m : Nat, M = (m : Int) := ⟨M.toNat, by omega⟩
            obtain ⟨⟨s, h⟩, s', h'⟩ := two m rfl (by rcases hb' with q | q <;> omega) (by omega) e2.symm
            exact ⟨_, .two hlt ho (by rw [hP, e1]) h h' ht⟩
          · injection heq with e1 e2; exact absurd e2 neg
        · injection heq with e1 e2; exact absurd e2 neg
    · rw [ho, if_pos rfl] at heq
      split at heq
      · injection heq with e1 e2
        obtain ⟨s, h⟩ := one e1 e2.symm
        obtain ⟨k, hk4, hk⟩ := hL i hlt ho
        exact ⟨_, .loop hlt ho (by rw [hP, e1]) hk hk4 h ht⟩
      · injection heq with e1 e2; exact absurd e2 neg
    · rw [ho, if_neg (by decide), if_neg (by decide), if_pos rfl] at heq
      split at heq
      · split at heq
        · injection heq with e1 e2
          rename_i hm _
          have hr := isAt_range hm
          have hb' := block_in ss (i := i + 1) (by omega)
          rw [hM] at hb'
          obtain ⟨m, rfl⟩ : ∃ m : Nat, M = (m : Int) := ⟨M.toNat, by omega⟩
          obtain ⟨⟨s, h⟩, s', h'⟩ := two m rfl (by rcases hb' with q | q <;> omega) (by omega) e2.symm
          exact ⟨_, .attempt hlt ho (by rw [hP, e1]) h h' ht⟩
        · injection heq with e1 e2; exact absurd e2 neg
      · injection heq with e1 e2; exact absurd e2 neg
end Go.Proofs.Ytmooecbdpfhnlaa
