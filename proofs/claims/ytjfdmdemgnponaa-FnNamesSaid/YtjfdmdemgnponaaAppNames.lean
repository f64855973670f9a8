/- The contract of the program's appendNames: the names of a tree behind what was there, in two slices of the call's own. (Four walks of one text, one for each kind of tree.) -/
import Derived.Test.YtjfdmdemgnponaaAppTree
import Derived.Test.YtjfdmdemgnponaaParts
namespace Go.Proofs.Ytjfdmdemgnponaa
open Go.RowKit

/-- The names of one Op in a tree, each ahead of those below it. -/
def nameIf (op op' n : Int) : List Int := if op' = op then [n] else []
mutual
def Tr.pre (op : Int) : Tr → List Int
  | .node op' n kids => nameIf op op' n ++ Tr.pres op kids
def Tr.pres (op : Int) : List Tr → List Int
  | [] => []
  | t :: r => t.pre op ++ Tr.pres op r
end
mutual
theorem mem_pre (op x : Int) : ∀ T : Tr, x ∈ T.pre op ↔ (op, x) ∈ T.flat
  | .node op' n kids => by
    simp only [Tr.pre, Tr.flat, List.mem_append, List.mem_singleton]
    rw [mem_pres op x kids]
    unfold nameIf
    by_cases h : op' = op
    · subst h
      rw [if_pos rfl, List.mem_singleton]
      constructor
      · rintro (h | h)
        · exact .inr (by rw [h])
        · exact .inl h
      · rintro (h | h)
        · exact .inr h
        · injection h with _ h; exact .inl h
    · rw [if_neg h]
      constructor
      · rintro (h' | h')
        · simp at h'
        · exact .inl h'
      · rintro (h' | h')
        · exact .inr h'
        · injection h' with h' _; exact absurd h'.symm h
theorem mem_pres (op x : Int) : ∀ Ts : List Tr, x ∈ Tr.pres op Ts ↔ (op, x) ∈ Tr.flats Ts
  | [] => by simp [Tr.pres, Tr.flats]
  | t :: r => by simp only [Tr.pres, Tr.flats, List.mem_append]; rw [mem_pre op x t, mem_pres op x r]
end
mutual
theorem pre_len (op : Int) : ∀ T : Tr, (T.pre op).length ≤ T.flat.length
  | .node op' n kids => by
    simp only [Tr.pre, Tr.flat, List.length_append, List.length_singleton]
    have := pres_len op kids
    have : (nameIf op op' n).length ≤ 1 := by unfold nameIf; split <;> simp
    omega
theorem pres_len (op : Int) : ∀ Ts : List Tr, (Tr.pres op Ts).length ≤ (Tr.flats Ts).length
  | [] => by simp [Tr.pres]
  | t :: r => by
    simp only [Tr.pres, Tr.flats, List.length_append]
    have := pre_len op t
    have := pres_len op r
    omega
end
theorem pres_append (op : Int) (a b : List Tr) : Tr.pres op (a ++ b) = Tr.pres op a ++ Tr.pres op b := by
  induction a with
  | nil => simp [Tr.pres]
  | cons t r ih => simp [Tr.pres, ih]
theorem pres_take_succ (op : Int) (kids : List Tr) (i : Nat) (h : i < kids.length) : Tr.pres op (kids.take (i + 1)) = Tr.pres op (kids.take i) ++ (kids.getD i default).pre op := by
  rw [List.take_succ_eq_append_getElem h, pres_append, List.getD_eq_getElem?_getD, List.getElem?_eq_getElem h]
  simp [Tr.pres]
theorem pres_take_len (op : Int) (kids : List Tr) (i : Nat) : (Tr.pres op (kids.take i)).length ≤ (Tr.flats (kids.take i)).length := pres_len op _

/-- Two slices in different blocks. -/
def Apart2 (v u : Value) : Prop := ∀ g, v.ownBlock = some g → u.ownBlock ≠ some g
/-- From w on, the blocks of v and u alone may have turned; v' lies in v's or a new one, u' in u's or a new one. -/
structure Two (w : World) (v u : Value) (w' : World) (v' u' : Value) : Prop where
  os : w'.os = w.os
  tape : w'.tape = w.tape
  output : w'.output = w.output
  size : w.heap.size ≤ w'.heap.size
  block : ∀ k, k < w.heap.size → some k ≠ v.ownBlock → some k ≠ u.ownBlock → w'.heap[k]? = w.heap[k]?
  left : ∀ g, v'.ownBlock = some g → v.ownBlock = some g ∨ w.heap.size ≤ g
  right : ∀ g, u'.ownBlock = some g → u.ownBlock = some g ∨ w.heap.size ≤ g
theorem Two.refl (w : World) (v u : Value) : Two w v u w v u := ⟨rfl, rfl, rfl, Nat.le_refl _, fun _ _ _ _ => rfl, fun _ h => .inl h, fun _ h => .inl h⟩
theorem Two.trans {w w1 w2 : World} {v u v1 u1 v2 u2 : Value} (h : Two w v u w1 v1 u1) (k : Two w1 v1 u1 w2 v2 u2) : Two w v u w2 v2 u2 := by
  refine ⟨k.os.trans h.os, k.tape.trans h.tape, k.output.trans h.output, Nat.le_trans h.size k.size, fun b hb h1 h2 => ?_, fun g hg => ?_, fun g hg => ?_⟩
  · refine (k.block b (Nat.lt_of_lt_of_le hb h.size) (fun e => ?_) (fun e => ?_)).trans (h.block b hb h1 h2)
    · rcases h.left b e.symm with h' | h'
      · exact h1 h'.symm
      · omega
    · rcases h.right b e.symm with h' | h'
      · exact h2 h'.symm
      · omega
  · rcases k.left g hg with h' | h'
    · exact h.left g h'
    · exact .inr (Nat.le_trans h.size h')
  · rcases k.right g hg with h' | h'
    · exact h.right g h'
    · exact .inr (Nat.le_trans h.size h')
theorem Two.of_left {w w1 : World} {v v1 u : Value} (h : GrowsTo w v w1 v1) : Two w v u w1 v1 u := ⟨h.1.os, h.1.tape, h.1.output, h.1.size, fun b hb h1 _ => h.1.block b hb h1, h.2, fun _ h => .inl h⟩
theorem Two.of_right {w w1 : World} {v u u1 : Value} (h : GrowsTo w u w1 u1) : Two w v u w1 v u1 := ⟨h.1.os, h.1.tape, h.1.output, h.1.size, fun b hb _ h2 => h.1.block b hb h2, fun _ h => .inl h, h.2⟩
theorem Two.of_below {w w1 : World} {v u : Value} (h : Below w.heap.size w w1) : Two w v u w1 v u := ⟨h.os, h.tape, h.output, h.size, fun b hb _ _ => h.block b hb, fun _ h => .inl h, fun _ h => .inl h⟩
theorem Two.below {w w' : World} {v u v' u' : Value} {B : Nat} (h : Two w v u w' v' u') (hB : B ≤ w.heap.size) (hv : ∀ g, v.ownBlock = some g → B ≤ g) (hu : ∀ g, u.ownBlock = some g → B ≤ g) : Below B w w' :=
  ⟨h.os, h.tape, h.output, h.size, fun k hk => h.block k (by omega) (fun e => by have := hv k e.symm; omega) (fun e => by have := hu k e.symm; omega)⟩

/-- Two slices of numbers of the call's own, in different blocks. -/
def Own2 (w : World) (B : Nat) (r s : Sl) (zs ys : List Int) : Prop := Own w B r.1 r.2.1 r.2.2 zs ∧ Own w B s.1 s.2.1 s.2.2 ys ∧ Apart2 (slV r) (slV s)
theorem Own2.below {w w' : World} {B : Nat} {r s : Sl} {zs ys : List Int} (h : Own2 w B r s zs ys) (hb : Below w.heap.size w w') : Own2 w' B r s zs ys := ⟨h.1.below hb, h.2.1.below hb, h.2.2⟩
theorem Own2.left {w w' : World} {B : Nat} {r r' s : Sl} {zs zs' ys : List Int} (h : Own2 w B r s zs ys) (hg : GrowsTo w (slV r) w' (slV r')) (ho : Own w' B r'.1 r'.2.1 r'.2.2 zs') : Own2 w' B r' s zs' ys := by
  refine ⟨ho, ⟨h.2.1.1.kept hg.1 ?_, h.2.1.2⟩, fun g hgr e => ?_⟩
  · cases hv : (Value.slice s.1 s.2.1 s.2.2).ownBlock with
    | none => exact .inl rfl
    | some g => exact .inr (fun e => h.2.2 g e.symm hv)
  · rcases hg.2 g hgr with h' | h'
    · exact h.2.2 g h' e
    · have := (h.2.1.block g e).2; omega
theorem Own2.right {w w' : World} {B : Nat} {r s s' : Sl} {zs ys ys' : List Int} (h : Own2 w B r s zs ys) (hg : GrowsTo w (slV s) w' (slV s')) (ho : Own w' B s'.1 s'.2.1 s'.2.2 ys') : Own2 w' B r s' zs ys' := by
  refine ⟨⟨h.1.1.kept hg.1 ?_, h.1.2⟩, ho, fun g hgr e => ?_⟩
  · cases hv : (Value.slice r.1 r.2.1 r.2.2).ownBlock with
    | none => exact .inl rfl
    | some g => exact .inr (fun e => h.2.2 g hv e.symm)
  · rcases hg.2 g e with h' | h'
    · exact h.2.2 g hgr h'
    · have := (h.1.block g hgr).2; omega
theorem keeps_two {w w' : World} {F : Nat → Prop} {B : Nat} {r s r' s' : Sl} {zs ys : List Int} (ho : Own2 w B r s zs ys) (h : Two w (slV r) (slV s) w' (slV r') (slV s')) : Keeps w F w' F := by
  refine fun b cur fz hF hh => ⟨h.block b (Array.getElem?_eq_some_iff.1 hh).1 (fun e => ?_) (fun e => ?_), hF⟩
  · obtain ⟨c', fz', h'⟩ := Go.Lib.ownsRow_kind ho.1.1 b e.symm
    rw [hh] at h'
    injection h' with h'
    injection h' with _ h'
    exact absurd h' (by decide)
  · obtain ⟨c', fz', h'⟩ := Go.Lib.ownsRow_kind ho.2.1.1 b e.symm
    rw [hh] at h'
    injection h' with h'
    injection h' with _ h'
    exact absurd h' (by decide)
theorem Own.alloc2 {w : World} {B : Nat} {a : Option Addr} {n c : Nat} {zs : List Int} (h : Own w B a n c zs) (o : Obj) : Own (w.alloc o) B a n c zs := ⟨h.1.alloc o, h.2⟩
theorem own_nil2 (w : World) (B : Nat) : Own w B none 0 0 [] := ⟨World.ownsRow_nil _ _ _ _, by omega, fun z hz => by simp at hz⟩
theorem info_i64' : (Try.prog.info? 2).map (fun i => (i.zero, i.size, i.bytes)) = some (some (.int .i64 0), 1, 8) := by kernel_rfl

/-- 'append(out, z)' of one number, and where the new slice lies. -/
theorem wpList_pushI {ops : Array Oper} {rest : List Oper} {o : Oper} {ac : Act} {Q : Exit → Act → World → Prop} (w : World) (hgd : o.guard = none) (s x : Operand)
    (ho : o.op = .call { callee := .builtin .append, args := #[s, x], argTypes := #[34, 34] })
    (B : Nat) (a : Option Addr) (n c : Nat) (zs : List Int) (hs : ac.eval s = .slice a n c) (hown : Own w B a n c zs)
    (g : Nat) (z : Int) (hx : ac.eval x = .slice (some ⟨g, 0, none⟩) 1 1) (hc : w.cell? ⟨g, 0, none⟩ = some (.int .i64 z)) (hz : In64 z) (hn : n < 1048576) (hB : B ≤ w.heap.size)
    (h : ∀ a1 c1 w', Own w' B a1 (n + 1) c1 (zs ++ [z]) → GrowsTo w (.slice a n c) w' (.slice a1 (n + 1) c1) → wpList Try.prog ops Q rest (ac.put o.dst (.slice a1 (n + 1) c1)) w') : wpList Try.prog ops Q (o :: rest) ac w := by
  refine wpList_pushG w hgd s x 34 2 (.int .i64 0) 1 8 ho Try.underlying34 info_i64' rfl (by omega) B a n c (zs.map (Value.int .i64)) hs hown.1 ⟨g, 0, none⟩ 1 1 [.int .i64 z] hx rfl ?_ ?_ ?_ ?_ hB ?_
  · intro j u hj
    match j, hj with
    | 0, hj => simp at hj; subst hj; simpa [Addr.add] using hc
  · intro u hu; simp at hu; subst hu; rfl
  · unfold maxLen; omega
  · omega
  · intro a1 c1 w' r1 r2
    refine h a1 c1 w' ⟨by simpa using r1, by omega, fun y hy => ?_⟩ r2
    rcases List.mem_append.1 hy with hy | hy
    · exact hown.2.2 y hy
    · rw [List.mem_singleton] at hy; subst hy; exact hz

/-! ### Which kind it is -/
theorem as_num_var (x : Value) (w : World) : (Instr.typeAssert (.iface 83 x) 53 76 true).run Try.prog w = .ok (.tuple #[.agg #[.int .i64 0], .bool false]) w := by kernel_rfl
theorem as_num_cell (x : Value) (w : World) : (Instr.typeAssert (.iface 83 x) 53 78 true).run Try.prog w = .ok (.tuple #[.agg #[.int .i64 0, .nilIface], .bool false]) w := by kernel_rfl
theorem as_var_var (x : Value) (w : World) : (Instr.typeAssert (.iface 76 x) 53 76 true).run Try.prog w = .ok (.tuple #[x, .bool true]) w := by kernel_rfl
theorem as_cell_var (x : Value) (w : World) : (Instr.typeAssert (.iface 78 x) 53 76 true).run Try.prog w = .ok (.tuple #[.agg #[.int .i64 0], .bool false]) w := by kernel_rfl
theorem as_cell_cell (x : Value) (w : World) : (Instr.typeAssert (.iface 78 x) 53 78 true).run Try.prog w = .ok (.tuple #[x, .bool true]) w := by kernel_rfl
theorem as_op_var (x : Value) (w : World) : (Instr.typeAssert (.iface 85 x) 53 76 true).run Try.prog w = .ok (.tuple #[.agg #[.int .i64 0], .bool false]) w := by kernel_rfl
theorem as_op_cell (x : Value) (w : World) : (Instr.typeAssert (.iface 85 x) 53 78 true).run Try.prog w = .ok (.tuple #[.agg #[.int .i64 0, .nilIface], .bool false]) w := by kernel_rfl

/-- What appendNames leaves. -/
def AppN (w : World) (B : Nat) (r s : Sl) (zs ys : List Int) (T : Tr) (e : Ending) (w' : World) : Prop :=
  ∃ r' s' : Sl, e = .returned (.tuple #[slV r', slV s']) ∧ Own2 w' B r' s' (zs ++ T.pre 1) (ys ++ T.pre 2) ∧ Two w (slV r) (slV s) w' (slV r') (slV s')
def AppNSaid (N : Nat) : Prop := ∀ (T : Tr) (v : Value) (w : World) (B : Nat) (a b : Option Addr) (n m c d : Nat) (zs ys : List Int), T.flat.length ≤ N → T.okT → IsTree w (fun _ => True) v T → Own2 w B (a, n, c) (b, m, d) zs ys → B ≤ w.heap.size → zs.length + T.flat.length ≤ 3000 → ys.length + T.flat.length ≤ 3000 →
  Calls Try.prog 41 #[.slice a n c, .slice b m d, v] w (AppN w B (a, n, c) (b, m, d) zs ys T)

set_option maxRecDepth 100000 in
set_option maxHeartbeats 2400000 in
theorem appN_num (N : Nat) (_ih : Hid (AppNSaid N)) (x : Int) (w : World) (B : Nat) (a b : Option Addr) (n m0 c d : Nat) (zs ys : List Int) (_hN : (Tr.node 0 x []).flat.length ≤ N + 1) (hok : (Tr.node 0 x []).okT) (ho : Own2 w B (a, n, c) (b, m0, d) zs ys) (hB : B ≤ w.heap.size) (hbz : zs.length + (Tr.node 0 x []).flat.length ≤ 3000) (hby : ys.length + (Tr.node 0 x []).flat.length ≤ 3000) :
    Calls Try.prog 41 #[.slice a n c, .slice b m0 d, .iface 83 (.agg #[.int .i64 x])] w (AppN w B (a, n, c) (b, m0, d) zs ys (Tr.node 0 x [])) := by
  have m1 := m_num_under (.int .i64 x)
  have q1 := as_num_var (.agg #[.int .i64 x])
  have q2 := as_num_cell (.agg #[.int .i64 x])
  have HL := Lib.hid ho.1.len
  have HM := Lib.hid ho.2.1.len
  have hin := okT_in hok
  simp only [Tr.okT] at hok
  clear hok
  simp only [Tr.flat, List.length_append, List.length_singleton] at hbz hby
  have hn1 : n ≤ 3000 := by have := HL.out; simp only [] at this; omega
  have hm1 : m0 ≤ 3000 := by have := HM.out; simp only [] at this; omega
  go_enter Try.func41, Try.ntmps41
  have hoA : Own2 w B (a, n, c) (b, m0, d) (zs ++ []) (ys ++ []) := by simpa using ho
  have htwA : Two w (slV (a, n, c)) (slV (b, m0, d)) w (slV (a, n, c)) (slV (b, m0, d)) := Two.refl _ _ _
  have hBA := hB
  clear ho
  go_wp2_with fail
  refine (num_under _ _).mono ?_
  rintro e w1 ⟨rfl, hb1⟩
  have ho1 := hoA.below hb1
  have hB1 : B ≤ w1.heap.size := Nat.le_trans hBA hb1.size
  skip
  obtain ⟨zs1, HZ1⟩ : ∃ zs1, Hid (zs ++ ([] : List Int) = zs1) := ⟨_, rfl⟩
  obtain ⟨ys1, HY1⟩ : ∃ ys1, Hid (ys ++ ([] : List Int) = ys1) := ⟨_, rfl⟩
  rw [HZ1.out, HY1.out] at ho1
  have hlz1 : zs1.length ≤ zs.length + 1 := by rw [← HZ1.out]; simp
  have hly1 : ys1.length ≤ ys.length + 1 := by rw [← HY1.out]; simp
  clear hoA
  go_wp2
  go_loopw [0, 1, 32] (fun ev eu i wr => ∃ (k : Nat) (a1 b1 : Option Addr) (n1 m1 c1 d1 : Nat), k ≤ 0 ∧ i = .int .i64 k ∧ ev = .slice a1 n1 c1 ∧ eu = .slice b1 m1 d1 ∧ Own2 wr B (a1, n1, c1) (b1, m1, d1) (zs1 ++ Tr.pres 1 (([]).take k)) (ys1 ++ Tr.pres 2 (([]).take k)) ∧ Two w1 (slV (a, n, c)) (slV (b, m0, d)) wr (slV (a1, n1, c1)) (slV (b1, m1, d1))) (fun _ _ i _ => 0 - (intOf i).toNat)
  case atStart => exact ⟨0, _, _, _, _, _, _, Nat.zero_le _, rfl, rfl, rfl, by simpa [Tr.pres] using ho1, Two.refl _ _ _⟩
  case round =>
    obtain ⟨k, a1, b1, n1, m1, c1, d1, hk, rfl, rfl, rfl, hown, htw⟩ := hrel
    have hBr : B ≤ wr.heap.size := Nat.le_trans hB1 htw.size
    by_cases hlt : k < 0
    · omega
    · obtain rfl : 0 = k := by omega
      have hall1 : Tr.pres 1 (([]).take (0)) = Tr.pres 1 ([]) := by rw [List.take_of_length_le (by simp)]
      have hall2 : Tr.pres 2 (([]).take (0)) = Tr.pres 2 ([]) := by rw [List.take_of_length_le (by simp)]
      rw [hall1, hall2] at hown
      have htw6 := (htwA.trans (Two.of_below hb1)).trans htw
      clear hall1 hall2 htw
      go_wp2
      go_ret2
      exact ⟨(a1, n1, c1), (b1, m1, d1), rfl, by rw [← HZ1.out, ← HY1.out] at hown; simp only [Tr.pre, nameIf]; simpa using hown, htw6⟩

set_option maxRecDepth 100000 in
set_option maxHeartbeats 2400000 in
theorem appN_var (N : Nat) (_ih : Hid (AppNSaid N)) (x : Int) (w : World) (B : Nat) (a b : Option Addr) (n m0 c d : Nat) (zs ys : List Int) (_hN : (Tr.node 1 x []).flat.length ≤ N + 1) (hok : (Tr.node 1 x []).okT) (ho : Own2 w B (a, n, c) (b, m0, d) zs ys) (hB : B ≤ w.heap.size) (hbz : zs.length + (Tr.node 1 x []).flat.length ≤ 3000) (hby : ys.length + (Tr.node 1 x []).flat.length ≤ 3000) :
    Calls Try.prog 41 #[.slice a n c, .slice b m0 d, .iface 76 (.agg #[.int .i64 x])] w (AppN w B (a, n, c) (b, m0, d) zs ys (Tr.node 1 x [])) := by
  have m1 := m_var_under (.int .i64 x)
  have q1 := as_var_var (.agg #[.int .i64 x])
  have HL := Lib.hid ho.1.len
  have HM := Lib.hid ho.2.1.len
  have hin := okT_in hok
  simp only [Tr.okT] at hok
  clear hok
  simp only [Tr.flat, List.length_append, List.length_singleton] at hbz hby
  have hn1 : n ≤ 3000 := by have := HL.out; simp only [] at this; omega
  have hm1 : m0 ≤ 3000 := by have := HM.out; simp only [] at this; omega
  go_enter Try.func41, Try.ntmps41
  have hs1 : B ≤ w.heap.size := hB
  go_wp2_with (at_builtin; refine wpList_pushI _ rfl _ _ rfl B _ _ _ zs rfl ((ho.1.alloc2 _).alloc2 _) (w.heap.size + 1) x rfl (by simp) hin.2 (by omega) (by simp; omega) ?_)
  intro a5 c5 w5 hown5 hgr5
  have hbA : Below w.heap.size w ((w.alloc (.cells #[.int .i64 x] 76)).alloc (.cells #[.int .i64 x] 2)) := ((Below.refl _ _).alloc (Nat.le_refl _) _).alloc (by simp) _
  have hoA := (ho.below hbA).left (r' := (a5, n + 1, c5)) hgr5 hown5
  have htwA : Two w (slV (a, n, c)) (slV (b, m0, d)) w5 (slV ((a5, n + 1, c5))) (slV ((b, m0, d))) := (Two.of_below hbA).trans (Two.of_left hgr5)
  have hBA : B ≤ w5.heap.size := by have := hgr5.size; simp at this; omega
  rw [← List.append_nil ys] at hoA
  clear ho hown5 hgr5 hbA
  go_wp2_with fail
  refine (var_under _ _).mono ?_
  rintro e w1 ⟨rfl, hb1⟩
  have ho1 := hoA.below hb1
  have hB1 : B ≤ w1.heap.size := Nat.le_trans hBA hb1.size
  skip
  obtain ⟨zs1, HZ1⟩ : ∃ zs1, Hid (zs ++ [x] = zs1) := ⟨_, rfl⟩
  obtain ⟨ys1, HY1⟩ : ∃ ys1, Hid (ys ++ ([] : List Int) = ys1) := ⟨_, rfl⟩
  rw [HZ1.out, HY1.out] at ho1
  have hlz1 : zs1.length ≤ zs.length + 1 := by rw [← HZ1.out]; simp
  have hly1 : ys1.length ≤ ys.length + 1 := by rw [← HY1.out]; simp
  clear hoA
  go_wp2
  go_loopw [0, 1, 32] (fun ev eu i wr => ∃ (k : Nat) (a1 b1 : Option Addr) (n1 m1 c1 d1 : Nat), k ≤ 0 ∧ i = .int .i64 k ∧ ev = .slice a1 n1 c1 ∧ eu = .slice b1 m1 d1 ∧ Own2 wr B (a1, n1, c1) (b1, m1, d1) (zs1 ++ Tr.pres 1 (([]).take k)) (ys1 ++ Tr.pres 2 (([]).take k)) ∧ Two w1 (slV (a5, n + 1, c5)) (slV (b, m0, d)) wr (slV (a1, n1, c1)) (slV (b1, m1, d1))) (fun _ _ i _ => 0 - (intOf i).toNat)
  case atStart => exact ⟨0, _, _, _, _, _, _, Nat.zero_le _, rfl, rfl, rfl, by simpa [Tr.pres] using ho1, Two.refl _ _ _⟩
  case round =>
    obtain ⟨k, a1, b1, n1, m1, c1, d1, hk, rfl, rfl, rfl, hown, htw⟩ := hrel
    have hBr : B ≤ wr.heap.size := Nat.le_trans hB1 htw.size
    by_cases hlt : k < 0
    · omega
    · obtain rfl : 0 = k := by omega
      have hall1 : Tr.pres 1 (([]).take (0)) = Tr.pres 1 ([]) := by rw [List.take_of_length_le (by simp)]
      have hall2 : Tr.pres 2 (([]).take (0)) = Tr.pres 2 ([]) := by rw [List.take_of_length_le (by simp)]
      rw [hall1, hall2] at hown
      have htw6 := (htwA.trans (Two.of_below hb1)).trans htw
      clear hall1 hall2 htw
      go_wp2
      go_ret2
      exact ⟨(a1, n1, c1), (b1, m1, d1), rfl, by rw [← HZ1.out, ← HY1.out] at hown; simp only [Tr.pre, nameIf]; simpa using hown, htw6⟩

set_option maxRecDepth 100000 in
set_option maxHeartbeats 2400000 in
theorem appN_cell (N : Nat) (ih : Hid (AppNSaid N)) (x : Int) (u0 : TypeId) (x0 : Value) (T0 : Tr) (w : World) (B : Nat) (a b : Option Addr) (n m0 c d : Nat) (zs ys : List Int) (hN : (Tr.node 2 x [T0]).flat.length ≤ N + 1) (hok : (Tr.node 2 x [T0]).okT) (hT0 : IsTree w (fun _ => True) (.iface u0 x0) T0) (ho : Own2 w B (a, n, c) (b, m0, d) zs ys) (hB : B ≤ w.heap.size) (hbz : zs.length + (Tr.node 2 x [T0]).flat.length ≤ 3000) (hby : ys.length + (Tr.node 2 x [T0]).flat.length ≤ 3000) :
    Calls Try.prog 41 #[.slice a n c, .slice b m0 d, .iface 78 (.agg #[.int .i64 x, .iface u0 x0])] w (AppN w B (a, n, c) (b, m0, d) zs ys (Tr.node 2 x [T0])) := by
  have m1 := m_cell_under (.int .i64 x) (.iface u0 x0)
  have q1 := as_cell_var (.agg #[.int .i64 x, .iface u0 x0])
  have q2 := as_cell_cell (.agg #[.int .i64 x, .iface u0 x0])
  have HL := Lib.hid ho.1.len
  have HM := Lib.hid ho.2.1.len
  have hin := okT_in hok
  simp only [Tr.okT] at hok
  have hok3 := hok.2.2; clear hok
  simp only [Tr.flat, List.length_append, List.length_singleton] at hN hbz hby
  have hn1 : n ≤ 3000 := by have := HL.out; simp only [] at this; omega
  have hm1 : m0 ≤ 3000 := by have := HM.out; simp only [] at this; omega
  go_enter Try.func41, Try.ntmps41
  have hs1 : B ≤ w.heap.size := hB
  go_wp2_with (at_builtin; refine wpList_pushI _ rfl _ _ rfl B _ _ _ ys rfl ((ho.2.1.alloc2 _).alloc2 _) (w.heap.size + 1) x rfl (by simp) hin.2 (by omega) (by simp; omega) ?_)
  intro a5 c5 w5 hown5 hgr5
  have hbA : Below w.heap.size w ((w.alloc (.cells #[.int .i64 x, .iface u0 x0] 78)).alloc (.cells #[.int .i64 x] 2)) := ((Below.refl _ _).alloc (Nat.le_refl _) _).alloc (by simp) _
  have hoA := (ho.below hbA).right (s' := (a5, m0 + 1, c5)) hgr5 hown5
  have htwA : Two w (slV (a, n, c)) (slV (b, m0, d)) w5 (slV ((a, n, c))) (slV ((a5, m0 + 1, c5))) := (Two.of_below hbA).trans (Two.of_right hgr5)
  have hBA : B ≤ w5.heap.size := by have := hgr5.size; simp at this; omega
  rw [← List.append_nil zs] at hoA
  have hT5 := hT0.keep ((keeps_below hbA).trans (keeps_own ((ho.2.1.alloc2 _).alloc2 _).1 hgr5.1 (by decide)))
  clear hT0 ho hown5 hgr5 hbA
  go_wp2_with fail
  refine (cell_under _ _ _ _).mono ?_
  rintro e w1 ⟨g, rfl, hg1, hg2, hb1⟩
  have ho1 := hoA.below hb1
  have hB1 : B ≤ w1.heap.size := Nat.le_trans hBA hb1.size
  have hrow : RowV w1 (fun _ => True) (some ⟨g, 0, none⟩) 1 [.iface u0 x0] := row_one hg2
  have HKIDS : Hid (∀ i, i < 1 → IsTree w1 (fun _ => True) (([.iface u0 x0] : List Value).getD i .nilIface) (([T0] : List Tr).getD i default)) := fun i hi => by
    obtain rfl : i = 0 := by omega
    exact hT5.keep (keeps_below hb1)
  clear hT5 hg2
  obtain ⟨zs1, HZ1⟩ : ∃ zs1, Hid (zs ++ ([] : List Int) = zs1) := ⟨_, rfl⟩
  obtain ⟨ys1, HY1⟩ : ∃ ys1, Hid (ys ++ [x] = ys1) := ⟨_, rfl⟩
  rw [HZ1.out, HY1.out] at ho1
  have hlz1 : zs1.length ≤ zs.length + 1 := by rw [← HZ1.out]; simp
  have hly1 : ys1.length ≤ ys.length + 1 := by rw [← HY1.out]; simp
  clear hoA
  go_wp2
  go_loopw [0, 1, 32] (fun ev eu i wr => ∃ (k : Nat) (a1 b1 : Option Addr) (n1 m1 c1 d1 : Nat), k ≤ 1 ∧ i = .int .i64 k ∧ ev = .slice a1 n1 c1 ∧ eu = .slice b1 m1 d1 ∧ Own2 wr B (a1, n1, c1) (b1, m1, d1) (zs1 ++ Tr.pres 1 (([T0]).take k)) (ys1 ++ Tr.pres 2 (([T0]).take k)) ∧ Two w1 (slV (a, n, c)) (slV (a5, m0 + 1, c5)) wr (slV (a1, n1, c1)) (slV (b1, m1, d1))) (fun _ _ i _ => 1 - (intOf i).toNat)
  case atStart => exact ⟨0, _, _, _, _, _, _, Nat.zero_le _, rfl, rfl, rfl, by simpa [Tr.pres] using ho1, Two.refl _ _ _⟩
  case round =>
    obtain ⟨k, a1, b1, n1, m1, c1, d1, hk, rfl, rfl, rfl, hown, htw⟩ := hrel
    have hBr : B ≤ wr.heap.size := Nat.le_trans hB1 htw.size
    by_cases hlt : k < 1
    · obtain ⟨kb, ko, hka, hbl, hcell⟩ := (hrow.keep (keeps_two ho1 htw)).at_ hlt
      have hkid := (HKIDS.out k hlt).keep (keeps_two ho1 htw)
      injection hka with hka; injection hka with e1 e2; subst e1 e2
      obtain ⟨u, y, hv⟩ := hkid.iface
      rw [hv] at hcell hkid
      clear hv
      simp only [Nat.zero_add] at hcell
      have hkl := flats_take_le ([T0]) k (by simp; omega)
      have hko := oks_getD hok3 (i := k) (by simp; omega)
      have HS1 := Lib.hid (pres_take_succ 1 ([T0]) k (by simp; omega))
      have HS2 := Lib.hid (pres_take_succ 2 ([T0]) k (by simp; omega))
      have hp1 := pres_take_len 1 ([T0]) k
      have hp2 := pres_take_len 2 ([T0]) k
      have hq1 : (zs1 ++ Tr.pres 1 (([T0]).take k)).length + (([T0]).getD k default).flat.length ≤ 3000 := by rw [List.length_append]; omega
      have hq2 : (ys1 ++ Tr.pres 2 (([T0]).take k)).length + (([T0]).getD k default).flat.length ≤ 3000 := by rw [List.length_append]; omega
      have hq3 : (([T0]).getD k default).flat.length ≤ N := by omega
      generalize ([T0]).getD k default = T1 at *
      go_wp2_with fail
      refine (ih.out _ _ wr B _ _ _ _ _ _ _ _ hq3 hko hkid hown hBr hq1 hq2).mono ?_
      rintro e w4 ⟨⟨a4, n4, c4⟩, ⟨b4, m4, d4⟩, rfl, hown4, htw4⟩
      simp only [slV] at htw4 ⊢
      have htw5 := htw.trans htw4
      clear hown htw htw4 hkid hcell hq1 hq2 hq3 hkl hko hp1 hp2
      go_wp2
      go_roundw
      case rel => exact ⟨k + 1, a4, b4, n4, m4, c4, d4, by omega, by go_num, rfl, rfl, by rw [HS1.out, HS2.out, ← List.append_assoc, ← List.append_assoc]; exact hown4, htw5⟩
      case measure => simp [intOf]; omega
    · obtain rfl : 1 = k := by omega
      have hall1 : Tr.pres 1 (([T0]).take (1)) = Tr.pres 1 ([T0]) := by rw [List.take_of_length_le (by simp)]
      have hall2 : Tr.pres 2 (([T0]).take (1)) = Tr.pres 2 ([T0]) := by rw [List.take_of_length_le (by simp)]
      rw [hall1, hall2] at hown
      have htw6 := (htwA.trans (Two.of_below hb1)).trans htw
      clear hall1 hall2 htw
      go_wp2
      go_ret2
      exact ⟨(a1, n1, c1), (b1, m1, d1), rfl, by rw [← HZ1.out, ← HY1.out] at hown; simp only [Tr.pre, nameIf]; simpa using hown, htw6⟩

set_option maxRecDepth 100000 in
set_option maxHeartbeats 2400000 in
theorem appN_op (N : Nat) (ih : Hid (AppNSaid N)) (k0 : Int) (ka : Option Addr) (m kc : Nat) (vs : List Value) (kids : List Tr) (w : World) (B : Nat) (a b : Option Addr) (n m0 c d : Nat) (zs ys : List Int) (hN : (Tr.node k0 0 kids).flat.length ≤ N + 1) (hok : (Tr.node k0 0 kids).okT) (h3 : 3 ≤ k0) (hm3 : m ≤ 3) (hkl0 : Hid (kids.length = m)) (hrow0 : RowV w (fun _ => True) ka m vs) (hkids0 : Hid (∀ i, i < m → IsTree w (fun _ => True) (vs.getD i .nilIface) (kids.getD i default))) (ho : Own2 w B (a, n, c) (b, m0, d) zs ys) (hB : B ≤ w.heap.size) (hbz : zs.length + (Tr.node k0 0 kids).flat.length ≤ 3000) (hby : ys.length + (Tr.node k0 0 kids).flat.length ≤ 3000) :
    Calls Try.prog 41 #[.slice a n c, .slice b m0 d, .iface 85 (.agg #[.int .i64 k0, .slice ka m kc])] w (AppN w B (a, n, c) (b, m0, d) zs ys (Tr.node k0 0 kids)) := by
  have m1 := m_op_under (.int .i64 k0) (.slice ka m kc)
  have q1 := as_op_var (.agg #[.int .i64 k0, .slice ka m kc])
  have q2 := as_op_cell (.agg #[.int .i64 k0, .slice ka m kc])
  have HL := Lib.hid ho.1.len
  have HM := Lib.hid ho.2.1.len
  have hin := okT_in hok
  simp only [Tr.okT] at hok
  have hok3 := hok.2.2; clear hok
  simp only [Tr.flat, List.length_append, List.length_singleton] at hN hbz hby
  have hn1 : n ≤ 3000 := by have := HL.out; simp only [] at this; omega
  have hm1 : m0 ≤ 3000 := by have := HM.out; simp only [] at this; omega
  go_enter Try.func41, Try.ntmps41
  have hoA : Own2 w B (a, n, c) (b, m0, d) (zs ++ []) (ys ++ []) := by simpa using ho
  have htwA : Two w (slV (a, n, c)) (slV (b, m0, d)) w (slV (a, n, c)) (slV (b, m0, d)) := Two.refl _ _ _
  have hBA := hB
  clear ho
  go_wp2_with fail
  refine (op_under _ _ _ _ _).mono ?_
  rintro e w1 ⟨rfl, hb1⟩
  have ho1 := hoA.below hb1
  have hB1 : B ≤ w1.heap.size := Nat.le_trans hBA hb1.size
  have hrow := hrow0.keep (keeps_below hb1)
  have HKIDS := Lib.hid (show ∀ i, i < m → IsTree w1 (fun _ => True) (vs.getD i .nilIface) (kids.getD i default) from fun i hi => (hkids0.out i hi).keep (keeps_below hb1))
  clear hkids0 hrow0
  obtain ⟨zs1, HZ1⟩ : ∃ zs1, Hid (zs ++ ([] : List Int) = zs1) := ⟨_, rfl⟩
  obtain ⟨ys1, HY1⟩ : ∃ ys1, Hid (ys ++ ([] : List Int) = ys1) := ⟨_, rfl⟩
  rw [HZ1.out, HY1.out] at ho1
  have hlz1 : zs1.length ≤ zs.length + 1 := by rw [← HZ1.out]; simp
  have hly1 : ys1.length ≤ ys.length + 1 := by rw [← HY1.out]; simp
  clear hoA
  go_wp2
  go_loopw [0, 1, 32] (fun ev eu i wr => ∃ (k : Nat) (a1 b1 : Option Addr) (n1 m1 c1 d1 : Nat), k ≤ m ∧ i = .int .i64 k ∧ ev = .slice a1 n1 c1 ∧ eu = .slice b1 m1 d1 ∧ Own2 wr B (a1, n1, c1) (b1, m1, d1) (zs1 ++ Tr.pres 1 ((kids).take k)) (ys1 ++ Tr.pres 2 ((kids).take k)) ∧ Two w1 (slV (a, n, c)) (slV (b, m0, d)) wr (slV (a1, n1, c1)) (slV (b1, m1, d1))) (fun _ _ i _ => m - (intOf i).toNat)
  case atStart => exact ⟨0, _, _, _, _, _, _, Nat.zero_le _, rfl, rfl, rfl, by simpa [Tr.pres] using ho1, Two.refl _ _ _⟩
  case round =>
    obtain ⟨k, a1, b1, n1, m1, c1, d1, hk, rfl, rfl, rfl, hown, htw⟩ := hrel
    have hBr : B ≤ wr.heap.size := Nat.le_trans hB1 htw.size
    by_cases hlt : k < m
    · obtain ⟨kb, ko, hka, hbl, hcell⟩ := (hrow.keep (keeps_two ho1 htw)).at_ hlt
      have hkid := (HKIDS.out k hlt).keep (keeps_two ho1 htw)
      subst hka
      obtain ⟨u, y, hv⟩ := hkid.iface
      rw [hv] at hcell hkid
      clear hv
      skip
      have hkl := flats_take_le (kids) k (by rw [hkl0.out]; omega)
      have hko := oks_getD hok3 (i := k) (by rw [hkl0.out]; omega)
      have HS1 := Lib.hid (pres_take_succ 1 (kids) k (by rw [hkl0.out]; omega))
      have HS2 := Lib.hid (pres_take_succ 2 (kids) k (by rw [hkl0.out]; omega))
      have hp1 := pres_take_len 1 (kids) k
      have hp2 := pres_take_len 2 (kids) k
      have hq1 : (zs1 ++ Tr.pres 1 ((kids).take k)).length + ((kids).getD k default).flat.length ≤ 3000 := by rw [List.length_append]; omega
      have hq2 : (ys1 ++ Tr.pres 2 ((kids).take k)).length + ((kids).getD k default).flat.length ≤ 3000 := by rw [List.length_append]; omega
      have hq3 : ((kids).getD k default).flat.length ≤ N := by omega
      generalize (kids).getD k default = T1 at *
      go_wp2_with fail
      refine (ih.out _ _ wr B _ _ _ _ _ _ _ _ hq3 hko hkid hown hBr hq1 hq2).mono ?_
      rintro e w4 ⟨⟨a4, n4, c4⟩, ⟨b4, m4, d4⟩, rfl, hown4, htw4⟩
      simp only [slV] at htw4 ⊢
      have htw5 := htw.trans htw4
      clear hown htw htw4 hkid hcell hq1 hq2 hq3 hkl hko hp1 hp2
      go_wp2
      go_roundw
      case rel => exact ⟨k + 1, a4, b4, n4, m4, c4, d4, by omega, by go_num, rfl, rfl, by rw [HS1.out, HS2.out, ← List.append_assoc, ← List.append_assoc]; exact hown4, htw5⟩
      case measure => simp [intOf]; omega
    · obtain rfl : m = k := by omega
      have hall1 : Tr.pres 1 ((kids).take (m)) = Tr.pres 1 (kids) := by rw [List.take_of_length_le (by rw [hkl0.out]; omega)]
      have hall2 : Tr.pres 2 ((kids).take (m)) = Tr.pres 2 (kids) := by rw [List.take_of_length_le (by rw [hkl0.out]; omega)]
      rw [hall1, hall2] at hown
      have htw6 := (htwA.trans (Two.of_below hb1)).trans htw
      clear hall1 hall2 htw
      go_wp2
      go_ret2
      exact ⟨(a1, n1, c1), (b1, m1, d1), rfl, by rw [← HZ1.out, ← HY1.out] at hown; simp only [Tr.pre, nameIf]; rw [if_neg (by omega), if_neg (by omega)]; simpa using hown, htw6⟩

theorem appN_all : ∀ N, AppNSaid N := by
  intro N
  induction N with
  | zero => intro T v w B a b n m c d zs ys hN; have := flat_pos T; omega
  | succ N ih =>
    have IH := Lib.hid ih
    clear ih
    intro T v w B a b n m c d zs ys hN hok hT ho hB hbz hby
    cases hT with
    | num x => exact appN_num N IH _ w B a b n m c d zs ys hN hok ho hB hbz hby
    | var x => exact appN_var N IH _ w B a b n m c d zs ys hN hok ho hB hbz hby
    | cell x v0 T0 h0 =>
      obtain ⟨u0, x0, rfl⟩ := h0.iface
      exact appN_cell N IH _ u0 x0 T0 w B a b n m c d zs ys hN hok h0 ho hB hbz hby
    | op k ka m' kc vs kids h1 h2 h3 h4 h5 h6 => exact appN_op N IH _ ka m' kc vs kids w B a b n m c d zs ys hN hok h1 h3 h4 h5 h6 ho hB hbz hby
theorem appendNames_any (T : Tr) (v : Value) (w : World) (hok : T.okT) (hT : IsTree w (fun _ => True) v T) (hbd : T.flat.length ≤ 3000) :
    Calls Try.prog 41 #[.slice none 0 0, .slice none 0 0, v] w (AppN w w.heap.size (none, 0, 0) (none, 0, 0) [] [] T) :=
  appN_all _ T v w w.heap.size none none 0 0 0 0 [] [] (Nat.le_refl _) hok hT ⟨own_nil2 _ _, own_nil2 _ _, fun g hg => by simp [slV, Value.ownBlock] at hg⟩ (Nat.le_refl _) (by simpa using hbd) (by simpa using hbd)
end Go.Proofs.Ytjfdmdemgnponaa
