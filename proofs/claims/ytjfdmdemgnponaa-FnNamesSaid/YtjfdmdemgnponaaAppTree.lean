/- The contract of the program's appendTree: the Terms of a tree, in order, behind what was there. (Four walks of one text, one for each kind of tree.) -/
import Derived.Test.YtjfdmdemgnponaaTree
import Derived.Test.YtjfdmdemgnponaaGrows
namespace Go.Proofs.Ytjfdmdemgnponaa
open Go.RowKit

theorem IsTree.iface {w : World} {F : Nat → Prop} {v : Value} {T : Tr} (h : IsTree w F v T) : ∃ u x, v = .iface u x := by cases h <;> exact ⟨_, _, rfl⟩
theorem okT_in {op n : Int} {kids : List Tr} (h : (Tr.node op n kids).okT) : InTm (op, n) := by
  simp only [Tr.okT] at h
  obtain ⟨h1, h2, h3, _⟩ := (tOkB_iff _).1 h.1
  have hr : 0 ≤ op ∧ op ≤ 17 := by
    rcases Int.lt_or_le op 0 with h' | h'
    · have := (takesI_neg op).2 (.inl h'); simp only [] at h1; omega
    · rcases Int.lt_or_le 17 op with h'' | h''
      · have := (takesI_neg op).2 (.inr h''); simp only [] at h1; omega
      · exact ⟨h', h''⟩
  simp only [] at h2 h3
  exact ⟨⟨by simp only []; omega, by simp only []; omega⟩, ⟨by simp only []; omega, by simp only []; omega⟩⟩
theorem flats_take_succ (kids : List Tr) (i : Nat) (h : i < kids.length) : Tr.flats (kids.take (i + 1)) = Tr.flats (kids.take i) ++ (kids.getD i default).flat := by
  rw [List.take_succ_eq_append_getElem h, flats_append, flats_one, List.getD_eq_getElem?_getD, List.getElem?_eq_getElem h]; rfl
theorem flats_take_le (kids : List Tr) (i : Nat) (h : i < kids.length) : (Tr.flats (kids.take i)).length + (kids.getD i default).flat.length ≤ (Tr.flats kids).length := by
  have e : Tr.flats kids = Tr.flats (kids.take (i + 1)) ++ Tr.flats (kids.drop (i + 1)) := by rw [← flats_append, List.take_append_drop]
  rw [e, flats_take_succ kids i h, List.length_append, List.length_append]; omega
theorem oks_getD {kids : List Tr} (h : Tr.oks kids) {i : Nat} (hi : i < kids.length) : (kids.getD i default).okT := by
  rw [List.getD_eq_getElem?_getD, List.getElem?_eq_getElem hi]; exact (oks_iff kids).1 h _ (List.getElem_mem hi)

theorem keeps_below {w w' : World} {F : Nat → Prop} (h : Below w.heap.size w w') : Keeps w F w' F := fun b _ _ hF hh => ⟨h.block b (Array.getElem?_eq_some_iff.1 hh).1, hF⟩
theorem keeps_own {w w' : World} {F : Nat → Prop} {B size n : Nat} {e : TypeId} {v : Value} {xs : List Value} (ho : w.ownsRow B e size v n xs) (hg : w.grownBy w' v.ownBlock) (hne : 53 ≠ e) : Keeps w F w' F := by
  refine fun b cur fz hF hh => ⟨hg.block b (Array.getElem?_eq_some_iff.1 hh).1 (fun e => ?_), hF⟩
  obtain ⟨c', fz', h'⟩ := Go.Lib.ownsRow_kind ho b e.symm
  rw [hh] at h'
  injection h' with h'
  injection h' with _ h'
  exact hne h'

theorem row_one {w : World} {g : Nat} {v : Value} (h : w.heap[g]? = some (.cells #[v] 53 (0, 0))) : RowV w (fun _ => True) (some ⟨g, 0, none⟩) 1 [v] := by
  refine ⟨rfl, fun _ => ⟨g, 0, _, _, rfl, trivial, h, fun i hi => ?_⟩⟩
  have : i = 0 := by omega
  subst this
  rfl

/-- What appendTree leaves. -/
def AppT (w : World) (B : Nat) (a : Option Addr) (n c : Nat) (ts : List Tm) (T : Tr) (e : Ending) (w' : World) : Prop :=
  ∃ a' n' c', e = .returned (.slice a' n' c') ∧ OwnT w' B a' n' c' (ts ++ T.flat) ∧ GrowsTo w (.slice a n c) w' (.slice a' n' c')
def AppSaid (N : Nat) : Prop := ∀ (T : Tr) (v : Value) (w : World) (B : Nat) (a : Option Addr) (n c : Nat) (ts : List Tm), T.flat.length ≤ N → T.okT → IsTree w (fun _ => True) v T → OwnT w B a n c ts → B ≤ w.heap.size → ts.length + T.flat.length ≤ 3000 →
  Calls Try.prog 38 #[.slice a n c, v] w (AppT w B a n c ts T)

set_option maxRecDepth 100000 in
set_option maxHeartbeats 1600000 in
theorem app_num (N : Nat) (_ih : Hid (AppSaid N)) (x : Int) (w : World) (B : Nat) (a : Option Addr) (n c : Nat) (ts : List Tm) (_hN : (Tr.node 0 x []).flat.length ≤ N + 1) (hok : (Tr.node 0 x []).okT) (ho : OwnT w B a n c ts) (hB : B ≤ w.heap.size) (hbd : ts.length + (Tr.node 0 x []).flat.length ≤ 3000) :
    Calls Try.prog 38 #[.slice a n c, .iface 83 (.agg #[.int .i64 x])] w (AppT w B a n c ts (Tr.node 0 x [])) := by
  have m1 := m_num_under (.int .i64 x)
  have m2 := m_num_term (.int .i64 x)
  have HL := Lib.hid ho.len
  have hn1 : n ≤ 3000 := by have := HL.out; omega
  have hin := okT_in hok
  simp only [Tr.okT] at hok
  clear hok
  simp only [Tr.flat, List.length_append, List.length_singleton] at hbd
  go_enter Try.func38, Try.ntmps38
  go_wp2_with fail
  refine (num_under _ _).mono ?_
  rintro e w1 ⟨rfl, hb1⟩
  have ho1 := ho.below hb1
  have hB1 : B ≤ w1.heap.size := Nat.le_trans hB hb1.size
  skip
  clear ho
  go_wp2
  go_loopw [0, 10] (fun ev i wr => ∃ (k : Nat) (a1 : Option Addr) (n1 c1 : Nat), k ≤ 0 ∧ i = .int .i64 k ∧ ev = .slice a1 n1 c1 ∧ OwnT wr B a1 n1 c1 (ts ++ Tr.flats (([]).take k)) ∧ GrowsTo w1 (.slice a n c) wr (.slice a1 n1 c1)) (fun _ i _ => 0 - (intOf i).toNat)
  case atStart => exact ⟨0, a, n, c, Nat.zero_le _, rfl, rfl, by simpa [Tr.flats] using ho1, GrowsTo.refl _ _⟩
  case round =>
    obtain ⟨k, a1, n1, c1, hk, rfl, rfl, hown, hgr⟩ := hrel
    have hBr : B ≤ wr.heap.size := Nat.le_trans hB1 hgr.size
    by_cases hlt : k < 0
    · omega
    · obtain rfl : 0 = k := by omega
      have hall : Tr.flats (([]).take (0)) = Tr.flats ([]) := by rw [List.take_of_length_le (by simp)]
      rw [hall] at hown
      have hl2 : (ts ++ Tr.flats ([])).length ≤ 3000 := by rw [List.length_append]; omega
      have hn2 : n1 ≤ 3000 := by have := hown.len; omega
      clear hall hl2
      go_wp2_with fail
      refine (num_term _ _).mono ?_
      rintro e w2 ⟨rfl, hb2⟩
      have hown2 := hown.below hb2
      have hgr2 := (GrowsTo.below_left hb1 hgr).below_right hb2
      have hs2 : B ≤ w2.heap.size := Nat.le_trans hBr hb2.size
      clear hown hgr hb2
      go_wp2_with (at_builtin; refine wpList_pushT _ rfl _ _ rfl B _ _ _ (ts ++ Tr.flats ([])) rfl (hown2.alloc _) w2.heap.size 0 x rfl (by simp) (by simp) hin (by omega) (by simp; omega) ?_)
      intro a3 c3 w3 hown3 hgr3
      have hgr4 := hgr2.trans (GrowsTo.below_left ((Below.refl _ _).alloc (Nat.le_refl _) _) hgr3)
      clear hown2 hgr2 hgr3
      go_wp2
      go_ret
      exact ⟨_, _, _, rfl, by rw [Tr.flat]; first | exact hown3 | (rw [← List.append_assoc]; exact hown3), hgr4⟩

set_option maxRecDepth 100000 in
set_option maxHeartbeats 1600000 in
theorem app_var (N : Nat) (_ih : Hid (AppSaid N)) (x : Int) (w : World) (B : Nat) (a : Option Addr) (n c : Nat) (ts : List Tm) (_hN : (Tr.node 1 x []).flat.length ≤ N + 1) (hok : (Tr.node 1 x []).okT) (ho : OwnT w B a n c ts) (hB : B ≤ w.heap.size) (hbd : ts.length + (Tr.node 1 x []).flat.length ≤ 3000) :
    Calls Try.prog 38 #[.slice a n c, .iface 76 (.agg #[.int .i64 x])] w (AppT w B a n c ts (Tr.node 1 x [])) := by
  have m1 := m_var_under (.int .i64 x)
  have m2 := m_var_term (.int .i64 x)
  have HL := Lib.hid ho.len
  have hn1 : n ≤ 3000 := by have := HL.out; omega
  have hin := okT_in hok
  simp only [Tr.okT] at hok
  clear hok
  simp only [Tr.flat, List.length_append, List.length_singleton] at hbd
  go_enter Try.func38, Try.ntmps38
  go_wp2_with fail
  refine (var_under _ _).mono ?_
  rintro e w1 ⟨rfl, hb1⟩
  have ho1 := ho.below hb1
  have hB1 : B ≤ w1.heap.size := Nat.le_trans hB hb1.size
  skip
  clear ho
  go_wp2
  go_loopw [0, 10] (fun ev i wr => ∃ (k : Nat) (a1 : Option Addr) (n1 c1 : Nat), k ≤ 0 ∧ i = .int .i64 k ∧ ev = .slice a1 n1 c1 ∧ OwnT wr B a1 n1 c1 (ts ++ Tr.flats (([]).take k)) ∧ GrowsTo w1 (.slice a n c) wr (.slice a1 n1 c1)) (fun _ i _ => 0 - (intOf i).toNat)
  case atStart => exact ⟨0, a, n, c, Nat.zero_le _, rfl, rfl, by simpa [Tr.flats] using ho1, GrowsTo.refl _ _⟩
  case round =>
    obtain ⟨k, a1, n1, c1, hk, rfl, rfl, hown, hgr⟩ := hrel
    have hBr : B ≤ wr.heap.size := Nat.le_trans hB1 hgr.size
    by_cases hlt : k < 0
    · omega
    · obtain rfl : 0 = k := by omega
      have hall : Tr.flats (([]).take (0)) = Tr.flats ([]) := by rw [List.take_of_length_le (by simp)]
      rw [hall] at hown
      have hl2 : (ts ++ Tr.flats ([])).length ≤ 3000 := by rw [List.length_append]; omega
      have hn2 : n1 ≤ 3000 := by have := hown.len; omega
      clear hall hl2
      go_wp2_with fail
      refine (var_term _ _).mono ?_
      rintro e w2 ⟨rfl, hb2⟩
      have hown2 := hown.below hb2
      have hgr2 := (GrowsTo.below_left hb1 hgr).below_right hb2
      have hs2 : B ≤ w2.heap.size := Nat.le_trans hBr hb2.size
      clear hown hgr hb2
      go_wp2_with (at_builtin; refine wpList_pushT _ rfl _ _ rfl B _ _ _ (ts ++ Tr.flats ([])) rfl (hown2.alloc _) w2.heap.size 1 x rfl (by simp) (by simp) hin (by omega) (by simp; omega) ?_)
      intro a3 c3 w3 hown3 hgr3
      have hgr4 := hgr2.trans (GrowsTo.below_left ((Below.refl _ _).alloc (Nat.le_refl _) _) hgr3)
      clear hown2 hgr2 hgr3
      go_wp2
      go_ret
      exact ⟨_, _, _, rfl, by rw [Tr.flat]; first | exact hown3 | (rw [← List.append_assoc]; exact hown3), hgr4⟩

set_option maxRecDepth 100000 in
set_option maxHeartbeats 1600000 in
theorem app_cell (N : Nat) (ih : Hid (AppSaid N)) (x : Int) (u0 : TypeId) (x0 : Value) (T0 : Tr)  (w : World) (B : Nat) (a : Option Addr) (n c : Nat) (ts : List Tm) (hN : (Tr.node 2 x [T0]).flat.length ≤ N + 1) (hok : (Tr.node 2 x [T0]).okT) (hT0 : IsTree w (fun _ => True) (.iface u0 x0) T0) (ho : OwnT w B a n c ts) (hB : B ≤ w.heap.size) (hbd : ts.length + (Tr.node 2 x [T0]).flat.length ≤ 3000) :
    Calls Try.prog 38 #[.slice a n c, .iface 78 (.agg #[.int .i64 x, .iface u0 x0])] w (AppT w B a n c ts (Tr.node 2 x [T0])) := by
  have m1 := m_cell_under (.int .i64 x) (.iface u0 x0)
  have m2 := m_cell_term (.int .i64 x) (.iface u0 x0)
  have HL := Lib.hid ho.len
  have hn1 : n ≤ 3000 := by have := HL.out; omega
  have hin := okT_in hok
  simp only [Tr.okT] at hok
  have hok3 := hok.2.2; clear hok
  simp only [Tr.flat, List.length_append, List.length_singleton] at hN hbd
  go_enter Try.func38, Try.ntmps38
  go_wp2_with fail
  refine (cell_under _ _ _ _).mono ?_
  rintro e w1 ⟨g, rfl, hg1, hg2, hb1⟩
  have ho1 := ho.below hb1
  have hB1 : B ≤ w1.heap.size := Nat.le_trans hB hb1.size
  have hrow : RowV w1 (fun _ => True) (some ⟨g, 0, none⟩) 1 [.iface u0 x0] := row_one hg2
  have hkids : ∀ i, i < 1 → IsTree w1 (fun _ => True) (([.iface u0 x0] : List Value).getD i .nilIface) (([T0] : List Tr).getD i default) := fun i hi => by
    obtain rfl : i = 0 := by omega
    exact hT0.keep (keeps_below hb1)
  have HKIDS := Lib.hid hkids
  clear hkids hT0 hg2
  clear ho
  go_wp2
  go_loopw [0, 10] (fun ev i wr => ∃ (k : Nat) (a1 : Option Addr) (n1 c1 : Nat), k ≤ 1 ∧ i = .int .i64 k ∧ ev = .slice a1 n1 c1 ∧ OwnT wr B a1 n1 c1 (ts ++ Tr.flats (([T0]).take k)) ∧ GrowsTo w1 (.slice a n c) wr (.slice a1 n1 c1)) (fun _ i _ => 1 - (intOf i).toNat)
  case atStart => exact ⟨0, a, n, c, Nat.zero_le _, rfl, rfl, by simpa [Tr.flats] using ho1, GrowsTo.refl _ _⟩
  case round =>
    obtain ⟨k, a1, n1, c1, hk, rfl, rfl, hown, hgr⟩ := hrel
    have hBr : B ≤ wr.heap.size := Nat.le_trans hB1 hgr.size
    by_cases hlt : k < 1
    · obtain ⟨b, o, hka, hbl, hcell⟩ := (hrow.keep (keeps_own ho1.1 hgr.1 (by decide))).at_ hlt
      have hkid := (HKIDS.out k hlt).keep (keeps_own ho1.1 hgr.1 (by decide))
      injection hka with hka; injection hka with e1 e2; subst e1 e2
      obtain ⟨u, y, hv⟩ := hkid.iface
      rw [hv] at hcell hkid
      clear hv
      have hkl := flats_take_le ([T0]) k (by simp; omega)
      have hko := oks_getD hok3 (i := k) (by simp; omega)
      have HS := Lib.hid (flats_take_succ ([T0]) k (by simp; omega))
      have hb3 : (ts ++ Tr.flats (([T0]).take k)).length + (([T0]).getD k default).flat.length ≤ 3000 := by rw [List.length_append]; omega
      have hb4 : (([T0]).getD k default).flat.length ≤ N := by omega
      simp only [Nat.zero_add] at hcell
      generalize ([T0]).getD k default = T1 at *
      go_wp2_with fail
      refine (ih.out _ _ wr B _ _ _ _ hb4 hko hkid hown hBr hb3).mono ?_
      rintro e w2 ⟨a2, n2, c2, rfl, hown2, hgr2⟩
      have hgr3 := hgr.trans hgr2
      clear hown hgr hgr2 hkid hcell hb3 hb4 hkl hko
      go_wp2
      go_roundw
      case rel => exact ⟨k + 1, a2, n2, c2, by omega, by go_num, rfl, by rw [HS.out, ← List.append_assoc]; exact hown2, hgr3⟩
      case measure => simp [intOf]; omega
    · obtain rfl : 1 = k := by omega
      have hall : Tr.flats (([T0]).take (1)) = Tr.flats ([T0]) := by rw [List.take_of_length_le (by simp)]
      rw [hall] at hown
      have hl2 : (ts ++ Tr.flats ([T0])).length ≤ 3000 := by rw [List.length_append]; omega
      have hn2 : n1 ≤ 3000 := by have := hown.len; omega
      clear hall hl2
      go_wp2_with fail
      refine (cell_term _ _ _ _).mono ?_
      rintro e w2 ⟨rfl, hb2⟩
      have hown2 := hown.below hb2
      have hgr2 := (GrowsTo.below_left hb1 hgr).below_right hb2
      have hs2 : B ≤ w2.heap.size := Nat.le_trans hBr hb2.size
      clear hown hgr hb2
      go_wp2_with (at_builtin; refine wpList_pushT _ rfl _ _ rfl B _ _ _ (ts ++ Tr.flats ([T0])) rfl (hown2.alloc _) w2.heap.size 2 x rfl (by simp) (by simp) hin (by omega) (by simp; omega) ?_)
      intro a3 c3 w3 hown3 hgr3
      have hgr4 := hgr2.trans (GrowsTo.below_left ((Below.refl _ _).alloc (Nat.le_refl _) _) hgr3)
      clear hown2 hgr2 hgr3
      go_wp2
      go_ret
      exact ⟨_, _, _, rfl, by rw [Tr.flat]; first | exact hown3 | (rw [← List.append_assoc]; exact hown3), hgr4⟩

set_option maxRecDepth 100000 in
set_option maxHeartbeats 1600000 in
theorem app_op (N : Nat) (ih : Hid (AppSaid N)) (k0 : Int) (ka : Option Addr) (m kc : Nat) (vs : List Value) (kids : List Tr) (w : World) (B : Nat) (a : Option Addr) (n c : Nat) (ts : List Tm) (hN : (Tr.node k0 0 kids).flat.length ≤ N + 1) (hok : (Tr.node k0 0 kids).okT) (hm3 : m ≤ 3) (hkl0 : Hid (kids.length = m)) (hrow0 : RowV w (fun _ => True) ka m vs) (hkids0 : Hid (∀ i, i < m → IsTree w (fun _ => True) (vs.getD i .nilIface) (kids.getD i default))) (ho : OwnT w B a n c ts) (hB : B ≤ w.heap.size) (hbd : ts.length + (Tr.node k0 0 kids).flat.length ≤ 3000) :
    Calls Try.prog 38 #[.slice a n c, .iface 85 (.agg #[.int .i64 k0, .slice ka m kc])] w (AppT w B a n c ts (Tr.node k0 0 kids)) := by
  have m1 := m_op_under (.int .i64 k0) (.slice ka m kc)
  have m2 := m_op_term (.int .i64 k0) (.slice ka m kc)
  have HL := Lib.hid ho.len
  have hn1 : n ≤ 3000 := by have := HL.out; omega
  have hin := okT_in hok
  simp only [Tr.okT] at hok
  have hok3 := hok.2.2; clear hok
  simp only [Tr.flat, List.length_append, List.length_singleton] at hN hbd
  go_enter Try.func38, Try.ntmps38
  go_wp2_with fail
  refine (op_under _ _ _ _ _).mono ?_
  rintro e w1 ⟨rfl, hb1⟩
  have ho1 := ho.below hb1
  have hB1 : B ≤ w1.heap.size := Nat.le_trans hB hb1.size
  have hrow := hrow0.keep (keeps_below hb1)
  have HKIDS := Lib.hid (show ∀ i, i < m → IsTree w1 (fun _ => True) (vs.getD i .nilIface) (kids.getD i default) from fun i hi => (hkids0.out i hi).keep (keeps_below hb1))
  clear hkids0 hrow0
  clear ho
  go_wp2
  go_loopw [0, 10] (fun ev i wr => ∃ (k : Nat) (a1 : Option Addr) (n1 c1 : Nat), k ≤ m ∧ i = .int .i64 k ∧ ev = .slice a1 n1 c1 ∧ OwnT wr B a1 n1 c1 (ts ++ Tr.flats ((kids).take k)) ∧ GrowsTo w1 (.slice a n c) wr (.slice a1 n1 c1)) (fun _ i _ => m - (intOf i).toNat)
  case atStart => exact ⟨0, a, n, c, Nat.zero_le _, rfl, rfl, by simpa [Tr.flats] using ho1, GrowsTo.refl _ _⟩
  case round =>
    obtain ⟨k, a1, n1, c1, hk, rfl, rfl, hown, hgr⟩ := hrel
    have hBr : B ≤ wr.heap.size := Nat.le_trans hB1 hgr.size
    by_cases hlt : k < m
    · obtain ⟨b, o, hka, hbl, hcell⟩ := (hrow.keep (keeps_own ho1.1 hgr.1 (by decide))).at_ hlt
      have hkid := (HKIDS.out k hlt).keep (keeps_own ho1.1 hgr.1 (by decide))
      subst hka
      obtain ⟨u, y, hv⟩ := hkid.iface
      rw [hv] at hcell hkid
      clear hv
      have hkl := flats_take_le (kids) k (by rw [hkl0.out]; omega)
      have hko := oks_getD hok3 (i := k) (by rw [hkl0.out]; omega)
      have HS := Lib.hid (flats_take_succ (kids) k (by rw [hkl0.out]; omega))
      have hb3 : (ts ++ Tr.flats ((kids).take k)).length + ((kids).getD k default).flat.length ≤ 3000 := by rw [List.length_append]; omega
      have hb4 : ((kids).getD k default).flat.length ≤ N := by omega
      skip
      generalize (kids).getD k default = T1 at *
      go_wp2_with fail
      refine (ih.out _ _ wr B _ _ _ _ hb4 hko hkid hown hBr hb3).mono ?_
      rintro e w2 ⟨a2, n2, c2, rfl, hown2, hgr2⟩
      have hgr3 := hgr.trans hgr2
      clear hown hgr hgr2 hkid hcell hb3 hb4 hkl hko
      go_wp2
      go_roundw
      case rel => exact ⟨k + 1, a2, n2, c2, by omega, by go_num, rfl, by rw [HS.out, ← List.append_assoc]; exact hown2, hgr3⟩
      case measure => simp [intOf]; omega
    · obtain rfl : m = k := by omega
      have hall : Tr.flats ((kids).take (m)) = Tr.flats (kids) := by rw [List.take_of_length_le (by rw [hkl0.out]; omega)]
      rw [hall] at hown
      have hl2 : (ts ++ Tr.flats (kids)).length ≤ 3000 := by rw [List.length_append]; omega
      have hn2 : n1 ≤ 3000 := by have := hown.len; omega
      clear hall hl2
      go_wp2_with fail
      refine (op_term _ _ _ _ _).mono ?_
      rintro e w2 ⟨rfl, hb2⟩
      have hown2 := hown.below hb2
      have hgr2 := (GrowsTo.below_left hb1 hgr).below_right hb2
      have hs2 : B ≤ w2.heap.size := Nat.le_trans hBr hb2.size
      clear hown hgr hb2
      go_wp2_with (at_builtin; refine wpList_pushT _ rfl _ _ rfl B _ _ _ (ts ++ Tr.flats (kids)) rfl (hown2.alloc _) w2.heap.size k0 0 rfl (by simp) (by simp) hin (by omega) (by simp; omega) ?_)
      intro a3 c3 w3 hown3 hgr3
      have hgr4 := hgr2.trans (GrowsTo.below_left ((Below.refl _ _).alloc (Nat.le_refl _) _) hgr3)
      clear hown2 hgr2 hgr3
      go_wp2
      go_ret
      exact ⟨_, _, _, rfl, by rw [Tr.flat]; first | exact hown3 | (rw [← List.append_assoc]; exact hown3), hgr4⟩

theorem app_all : ∀ N, AppSaid N := by
  intro N
  induction N with
  | zero => intro T v w B a n c ts hN; have := flat_pos T; omega
  | succ N ih =>
    have IH := Lib.hid ih
    clear ih
    intro T v w B a n c ts hN hok hT ho hB hbd
    cases hT with
    | num x => exact app_num N IH x w B a n c ts hN hok ho hB hbd
    | var x => exact app_var N IH x w B a n c ts hN hok ho hB hbd
    | cell x v0 T0 h0 =>
      obtain ⟨u0, x0, rfl⟩ := h0.iface
      exact app_cell N IH x u0 x0 T0 w B a n c ts hN hok h0 ho hB hbd
    | op k ka m kc vs kids h1 h2 h3 h4 h5 h6 => exact app_op N IH k ka m kc vs kids w B a n c ts hN hok h3 h4 h5 h6 ho hB hbd
theorem appendTree_any (T : Tr) (v : Value) (w : World) (B : Nat) (a : Option Addr) (n c : Nat) (ts : List Tm) (hok : T.okT) (hT : IsTree w (fun _ => True) v T) (ho : OwnT w B a n c ts) (hB : B ≤ w.heap.size) (hbd : ts.length + T.flat.length ≤ 3000) :
    Calls Try.prog 38 #[.slice a n c, v] w (AppT w B a n c ts T) := app_all _ T v w B a n c ts (Nat.le_refl _) hok hT ho hB hbd
end Go.Proofs.Ytjfdmdemgnponaa
