/- Joined texts of this proof (SetWalk, SpecNames, Names2, ImplHold, ImplFresh, NeedProg), in build order. -/
import Derived.Test.YtbnpoliogldohaaGreatS26
import Derived.Test.YtbnpoliogldohaaGreatS28
import Derived.Deep.LoopGhost
import Derived.Test.YtbnpoliogldohaaGreatS1
import Derived.Test.YtbnpoliogldohaaGreatS4
import Derived.Test.YtbnpoliogldohaaGreatS22
import Derived.Test.YtbnpoliogldohaaGreatS25
/- Sets at the operations: how many, one less, a range over one; the contracts of the program's unite and holdersIn. -/
namespace Go.Proofs.YtbnpoliogldohaaGreat
open Go.RowKit

section
variable {κ : Type} {kt : TypeId} {kv : κ → Value} (w : World) {ops : Array Oper} {rest : List Oper} {o : Oper} {a : Act} {Q : Exit → Act → World → Prop}
theorem wpList_len_set (hg : o.guard = none) (m : Operand) (t : TypeId) (hop : o.op = Op.call { callee := Callee.builtin Builtin.len, args := #[m], argTypes := #[t] })
    (kt e : TypeId) (ht : Tryz.prog.underlying t = some (.map kt e)) (b : Nat) (ks : List κ) (hm : a.eval m = .map (some b)) (h : KSet kv w b ks)
    (hK : wpList Tryz.prog ops Q rest (a.put o.dst (.int .i64 (ks.length : Int))) w) :
    wpList Tryz.prog ops Q (o :: rest) a w := by
  refine wpList_plain hg fun K' hK' => ?_
  unfold Oper.wp
  simp [execOp, hop, resolve, invoke, builtin, hm, h.len ht o.type, Result.andThen]
  exact hK' _ _ hK
theorem wpList_delete_set [DecidableEq κ] (hg : o.guard = none) (m x : Operand) (t kt : TypeId) (hop : o.op = Op.call { callee := Callee.builtin Builtin.delete, args := #[m, x], argTypes := #[t, kt] })
    (e : TypeId) (K : KeyLawS kt kv) (ht : Tryz.prog.underlying t = some (.map kt e)) (b : Nat) (ks : List κ) (hm : a.eval m = .map (some b)) (h : KSet kv w b ks) (y : κ) (hx : a.eval x = kv y)
    (hK : ∀ w', KSet kv w' b (ks.filter (fun z => decide (z ≠ y))) → w.grownBy w' (some b) → w'.heap.size = w.heap.size → wpList Tryz.prog ops Q rest (a.put o.dst (.tuple #[])) w') :
    wpList Tryz.prog ops Q (o :: rest) a w := by
  refine wpList_plain hg fun K' hK' => ?_
  obtain ⟨w', hrun, r1, r2, r3⟩ := h.drop K ht y o.type
  unfold Oper.wp
  simp [execOp, hop, resolve, invoke, builtin, hm, hx, hrun, Result.andThen]
  exact hK' _ _ (hK w' r1 r2 r3)
theorem wpList_put_set [DecidableEq κ] (hg : o.guard = none) (m x v : Operand) (t : TypeId) (hop : o.op = Op.mapUpdate t m x v) (kt e : TypeId) (K : KeyLawS kt kv) (ht : Tryz.prog.underlying t = some (.map kt e)) (b : Nat) (ks : List κ) (hm : a.eval m = .map (some b)) (h : KSet kv w b ks) (y : κ) (hx : a.eval x = kv y) (hv : a.eval v = .bool true)
    (hK : ∀ w', KSet kv w' b (addK ks y) → w.grownBy w' (some b) → w'.heap.size = w.heap.size → wpList Tryz.prog ops Q rest (a.put o.dst (.tuple #[])) w') :
    wpList Tryz.prog ops Q (o :: rest) a w := by
  refine wpList_plain hg fun K' hK' => ?_
  obtain ⟨w', hrun, r1, r2, r3⟩ := h.put K ht y
  unfold Oper.wp
  simp [execOp, hop, hm, hx, hv, hrun, Result.andThen]
  exact hK' _ _ (hK w' r1 r2 r3)
theorem wpList_range_set (hg : o.guard = none) (m : Operand) (t : TypeId) (hop : o.op = Op.range t m) (kt e : TypeId) (ht : Tryz.prog.underlying t = some (.map kt e)) (b : Nat) (ks : List κ) (hm : a.eval m = .map (some b)) (h : KSet kv w b ks)
    (hK : ∀ w', KIter kv w' w.heap.size b ks ks → Below w.heap.size w w' → w'.heap.size = w.heap.size + 1 → wpList Tryz.prog ops Q rest (a.put o.dst (.pointer (some ⟨w.heap.size, 0, none⟩))) w') :
    wpList Tryz.prog ops Q (o :: rest) a w := by
  refine wpList_plain hg fun K' hK' => ?_
  obtain ⟨w', hrun, r1, r2, r3⟩ := h.range ht
  unfold Oper.wp
  simp [execOp, hop, hm, hrun, Result.andThen]
  exact hK' _ _ (hK w' r1 r2 r3)
end
section
variable {κ : Type} {kv : κ → Value} {w : World} {b : Nat} {ks : List κ}
theorem KSet.alloc (h : KSet kv w b ks) (o : Obj) : KSet kv (w.alloc o) b ks := h.at (heap_alloc_old w o h.lt)
theorem KIter.alloc {r : Nat} {left : List κ} (h : KIter kv w r b ks left) (o : Obj) : KIter kv (w.alloc o) r b ks left := h.at (heap_alloc_old w o h.set.lt) (heap_alloc_old w o h.lt)
theorem grown_alloc {w w' : World} {row : Option Nat} (h : w.grownBy w' row) (o : Obj) : w.grownBy (w'.alloc o) row :=
  ⟨h.os, h.tape, h.output, Nat.le_trans h.size (by simp), fun i hi hne => (heap_alloc_old w' o (Nat.lt_of_lt_of_le hi h.size)).trans (h.block i hi hne)⟩
theorem grown_below {w w' : World} (h : Below w.heap.size w w') (row : Option Nat) : w.grownBy w' row := ⟨h.os, h.tape, h.output, h.size, fun i hi _ => h.block i hi⟩
end
theorem iter_mem {κ : Type} [DecidableEq κ] {ks' ks xs left : List κ} {y : κ} (h : ∀ x, x ∈ ks' ↔ x ∈ ks ∨ (x ∈ xs ∧ x ∉ left)) (hy : y ∈ xs) : ∀ x, x ∈ addK ks' y ↔ x ∈ ks ∨ (x ∈ xs ∧ x ∉ left.filter (fun z => decide (z ≠ y))) := by
  intro x
  rw [mem_addK, h]
  simp only [List.mem_filter, decide_eq_true_eq, not_and, ne_eq, Decidable.not_not]
  constructor
  · rintro ((h | ⟨h1, h2⟩) | h)
    · exact .inl h
    · exact .inr ⟨h1, fun h' => absurd h' h2⟩
    · exact .inr ⟨h ▸ hy, fun _ => h⟩
  · rintro (h | ⟨h1, h2⟩)
    · exact .inl (.inl h)
    · by_cases hl : x ∈ left
      · exact .inr (h2 hl)
      · exact .inl (.inr ⟨h1, hl⟩)
/-- The step of a range over a set of holders. -/
theorem wpList_next_hold {w : World} {ops : Array Oper} {rest : List Oper} {o : Oper} {a : Act} {Q : Exit → Act → World → Prop} (hg : o.guard = none) (it : Operand) (hop : o.op = Op.next it false) (r b : Nat) (ks left : List (Int × Int)) (hit : a.eval it = .pointer (some ⟨r, 0, none⟩)) (h : KIter holdV w r b ks left)
    (hDone : left = [] → wpList Tryz.prog ops Q rest (a.put o.dst (.tuple #[.bool false])) w)
    (hMore : ∀ (k n : Int) w', IterStep holdV w w' r b ks left (k, n) → (Instr.entry (.pointer (some ⟨r, 0, none⟩))).run Tryz.prog w' = .ok (.tuple #[.agg #[.int .i64 k, .int .i64 n], .bool true]) w' → wpList Tryz.prog ops Q rest (a.put o.dst (.tuple #[.bool true, .agg #[.int .i64 k, .int .i64 n], .bool true])) w') :
    wpList Tryz.prog ops Q (o :: rest) a w := wpList_next_set hg it hop r b ks left hit h hDone (fun x w' hst hen => hMore x.1 x.2 w' hst hen)
set_option maxHeartbeats 1600000 in
theorem uniteH_any (w : World) (b m : Nat) (ks xs : List (Int × Int)) (hb : KSet holdV w b ks) (hm : KSet holdV w m xs) (hbm : b ≠ m) :
    Calls Tryz.prog 102 #[.map (some b), .map (some m)] w fun e w' => ∃ ks', e = .returned (.bool (decide (ks.length < ks'.length))) ∧ KSet holdV w' b ks' ∧ (∀ x, x ∈ ks' ↔ x ∈ ks ∨ x ∈ xs) ∧ w.grownBy w' (some b) := by
  have HB := Lib.hid hb
  have HM := Lib.hid hm
  have HNE := Lib.hid hbm
  have hbl := hb.lt
  have hml := hm.lt
  clear hb hm hbm
  go_enter Tryz.func102, Tryz.ntmps102
  go_wp2_with (first
    | (at_len; refine wpList_len_set _ rfl _ _ rfl _ _ Tryz.underlying78 b ks rfl HB.out ?_)
    | (at_range; refine wpList_range_set _ rfl _ _ rfl _ _ Tryz.underlying78 m xs rfl HM.out ?_; intro w0 hi0 hb0 hs0)
    | go_in)
  go_frame
  have HB0 := Lib.hid (HB.out.below hb0 hbl)
  have hgw0 := grown_below hb0 (some b)
  clear hb0
  go_loopg [11] xs.length (fun k _ wr => ∃ left ks', left.length = k ∧ KIter holdV wr w.heap.size m xs left ∧ KSet holdV wr b ks' ∧ Hid (∀ x, x ∈ ks' ↔ x ∈ ks ∨ (x ∈ xs ∧ x ∉ left)) ∧ w.grownBy wr (some b))
  case atStart => exact ⟨xs, ks, rfl, hi0, HB0.out, Lib.hid (fun x => by simp), hgw0⟩
  case round =>
    obtain ⟨left, ks', hlk, hi, hk, HX, hgw⟩ := hrel
    go_wp2_with (first
      | (at_next; refine wpList_next_hold rfl _ rfl w.heap.size m xs left rfl hi ?_ ?_)
      | go_in)
    · intro h0
      go_wp2_with (first
        | (at_len; refine wpList_len_set _ rfl _ _ rfl _ _ Tryz.underlying78 b ks' rfl hk ?_)
        | go_in)
      go_ret
      exact ⟨ks', by simp, hk, fun x => by rw [HX.out]; simp [h0], hgw⟩
    · intro k0 n0 w1 hst hen
      have hk1 := hk.kept hst.grown (by intro e; injection e with e; omega)
      have hx1 := hi.sub _ hst.mem
      have HK1 := Lib.hid (hk1.alloc (.cells #[.int .i64 k0, .int .i64 n0] 118))
      go_wp2_with (first
        | (at_mapUpdate; refine wpList_put_set _ rfl _ _ _ _ rfl _ _ keyLaw_hold Tryz.underlying78 b ks' rfl HK1.out (k0, n0) rfl rfl ?_; intro w2 hk2 hg2 hs2)
        | go_in)
      have hgw2 := (grown_alloc (hgw.andThen hst.grown (fun j hj => .inl (by injection hj with e; omega))) (.cells #[.int .i64 k0, .int .i64 n0] 118)).andThen hg2 (fun j hj => .inr hj)
      have hi2 := (hst.iter.alloc (.cells #[.int .i64 k0, .int .i64 n0] 118)).kept hg2 (fun e => HNE.out (by injection e)) (fun e => by injection e with e; omega)
      have hless := hst.less
      go_roundg (left.filter (fun y => decide (y ≠ (k0, n0)))).length
      case rel => exact ⟨_, _, rfl, hi2, hk2, Lib.hid (iter_mem HX.out hx1), hgw2⟩
      case measure => omega
end Go.Proofs.YtbnpoliogldohaaGreat
/- The contracts of the model's l2In, l2With and NamesIn. -/
namespace Go.Proofs.YtbnpoliogldohaaGreat
open Go.RowKit

/-- Not among the first k. -/
def NotTo (z : Int) (zs : List Int) (k : Nat) : Prop := ∀ i, i < k → zs.getD i 0 ≠ z
theorem NotTo.succ {z x : Int} {zs : List Int} {k : Nat} (h : NotTo z zs k) (hx : Hid (x = zs.getD k 0)) (hne : x ≠ z) : NotTo z zs (k + 1) := by
  intro i hi
  rcases Nat.lt_or_ge i k with hlt | hge
  · exact h i hlt
  · have : i = k := by omega
    subst this; rw [← hx.out]; exact hne
theorem notTo_all {z : Int} {zs : List Int} (h : NotTo z zs zs.length) : z ∉ zs := by
  intro hz
  obtain ⟨i, hi, rfl⟩ := List.getElem_of_mem hz
  exact h i hi (by rw [List.getD_eq_getElem?_getD, List.getElem?_eq_getElem hi]; rfl)

set_option maxHeartbeats 400000 in
theorem l2In_any (a : Option Addr) (n c : Nat) (zs : List Int) (z : Int) (w : World) (h : Ints w a n zs) :
    Calls Tryz.prog 59 #[.slice a n c, .int .i64 z] w fun e w' => e = .returned (.bool (decide (z ∈ zs))) ∧ w = w' := by
  have HL := Lib.hid h.1
  have hbd := h.2.1
  go_enter Tryz.func59, Tryz.ntmps59
  go_wp2
  go_loop [5] (fun i => ∃ k : Nat, k ≤ n ∧ i = .int .i64 k ∧ NotTo z zs k) (fun i => n - (intOf i).toNat)
  case atStart => exact ⟨0, Nat.zero_le _, rfl, fun i hi => absurd hi (by omega)⟩
  case round =>
    obtain ⟨k, hk, rfl, hg⟩ := hrel
    by_cases hlt : k < n
    · obtain ⟨b, o, x, rfl, hb, hx, hin, hc⟩ := h.at_ hlt
      by_cases he : x = z
      · subst he
        have HM : Hid (decide (x ∈ zs) = true) := by show _ = _; rw [decide_eq_true_eq, hx.out]; exact getD_mem (by rw [HL.out]; exact hlt)
        go_wp2
        go_ret
        exact ⟨ret_bool HM.out.symm, rfl⟩
      · have hne : (x == z) = false := by simpa using he
        have hg2 := hg.succ hx he
        clear he
        go_wp2
        go_round
        case rel => exact ⟨k + 1, by omega, by go_num, hg2⟩
        case measure => simp [intOf]; omega
    · obtain rfl : n = k := by omega
      have HM : Hid (decide (z ∈ zs) = false) := by show _ = _; rw [decide_eq_false_iff_not]; exact notTo_all (by rw [HL.out]; exact hg)
      go_wp2
      go_ret
      exact ⟨ret_bool HM.out.symm, rfl⟩

/-- How far the new list is. -/
def PutSt (z : Int) (l : List Int) (k : Nat) (put : Bool) (out : List Int) : Prop :=
  (put = true ∧ out ++ l.drop k = putI z l) ∨ (put = false ∧ out = l.take k ∧ putI z l = l.take k ++ putI z (l.drop k))
theorem drop_at {l : List Int} {k : Nat} {x : Int} (h : k < l.length) (hx : Hid (x = l.getD k 0)) : l.drop k = x :: l.drop (k + 1) := by
  rw [List.drop_eq_getElem_cons h, hx.out, List.getD_eq_getElem?_getD, List.getElem?_eq_getElem h]; rfl
theorem take_at {l : List Int} {k : Nat} {x : Int} (h : k < l.length) (hx : Hid (x = l.getD k 0)) : l.take (k + 1) = l.take k ++ [x] := by
  rw [List.take_succ_eq_append_getElem h, hx.out, List.getD_eq_getElem?_getD, List.getElem?_eq_getElem h]; rfl
theorem PutSt.start (z : Int) (l : List Int) : PutSt z l 0 false [] := .inr ⟨rfl, by simp, by simp⟩
theorem PutSt.keep {z x : Int} {l out : List Int} {k : Nat} (h : PutSt z l k true out) (hk : k < l.length) (hx : Hid (x = l.getD k 0)) : PutSt z l (k + 1) true (out ++ [x]) := by
  rcases h with ⟨_, h⟩ | ⟨h, _⟩
  · refine .inl ⟨rfl, ?_⟩
    rw [drop_at hk hx] at h
    rw [List.append_assoc]; exact h
  · cases h
theorem PutSt.wait {z x : Int} {l out : List Int} {k : Nat} (h : PutSt z l k false out) (hk : k < l.length) (hx : Hid (x = l.getD k 0)) (hge : ¬ z < x) : PutSt z l (k + 1) false (out ++ [x]) := by
  rcases h with ⟨h, _⟩ | ⟨_, h1, h2⟩
  · cases h
  · refine .inr ⟨rfl, by rw [take_at hk hx, h1], ?_⟩
    rw [h2, drop_at hk hx, take_at hk hx, putI, if_neg hge]
    simp
theorem PutSt.put {z x : Int} {l out : List Int} {k : Nat} (h : PutSt z l k false out) (hk : k < l.length) (hx : Hid (x = l.getD k 0)) (hlt : z < x) : PutSt z l (k + 1) true (out ++ [z, x]) := by
  rcases h with ⟨h, _⟩ | ⟨_, h1, h2⟩
  · cases h
  · refine .inl ⟨rfl, ?_⟩
    rw [h2, drop_at hk hx, putI, if_pos hlt, h1]
    simp
theorem PutSt.done_put {z : Int} {l out : List Int} {k : Nat} (h : PutSt z l k true out) (hk : l.length ≤ k) : out = putI z l := by
  rcases h with ⟨_, h⟩ | ⟨h, _⟩
  · rw [List.drop_of_length_le hk, List.append_nil] at h; exact h
  · cases h
theorem PutSt.done_wait {z : Int} {l out : List Int} {k : Nat} (h : PutSt z l k false out) (hk : l.length ≤ k) : out ++ [z] = putI z l := by
  rcases h with ⟨h, _⟩ | ⟨_, h1, h2⟩
  · cases h
  · rw [h2, h1, List.drop_of_length_le hk]; rfl
theorem PutSt.len {z : Int} {l out : List Int} {k : Nat} {put : Bool} (h : PutSt z l k put out) (hk : k ≤ l.length) : out.length ≤ l.length + 1 := by
  have hp : (putI z l).length = l.length + 1 := by
    clear h hk
    induction l with
    | nil => rfl
    | cons x r ih =>
      simp only [putI]
      split
      · rfl
      · simp [ih]
  rcases h with ⟨_, h⟩ | ⟨_, h, _⟩
  · have := congrArg List.length h
    rw [List.length_append, hp] at this
    omega
  · rw [h, List.length_take]; omega
theorem ints_news {w : World} {b o n : Nat} {zs : List Int} (h : Ints w (some ⟨b, o, none⟩) n zs) : ∀ j u, (zs.map (Value.int .i64))[j]? = some u → w.cell? ((⟨b, o, none⟩ : Addr).add j) = some u := by
  intro j u hj
  have hl := h.1
  have hjl : j < zs.length := by have := (List.getElem?_eq_some_iff.1 hj).1; simpa using this
  obtain ⟨b', o', e, _, hc⟩ := h.2.2.2 (by omega)
  injection e with e
  injection e with e1 e2
  subst e1 e2
  rw [Go.WideShapes.add_plain, hc j (by omega), ← hj]
  simp [List.getD_eq_getElem?_getD, hjl]
theorem own_empty2 (w : World) (B : Nat) (hB : B ≤ w.heap.size) : Own (w.alloc (.cells #[] 2)) B (some ⟨w.heap.size, 0, none⟩) 0 0 [] :=
  ⟨World.ownsRow_lit w #[] 0 hB (by unfold maxLen; omega) rfl, by omega, fun z hz => by simp at hz⟩

set_option maxHeartbeats 1600000 in
theorem l2With_any (g n c : Nat) (l : List Int) (z : Int) (w : World) (h : Ints w (some ⟨g, 0, none⟩) n l) (hg : g < w.heap.size) (hz : In64 z) (hn : n ≤ 3000) :
    Calls Tryz.prog 168 #[.slice (some ⟨g, 0, none⟩) n c, .int .i64 z] w (MadeInts w (withI l z)) := by
  have HL := Lib.hid h.1
  by_cases hm : z ∈ l
  · have HM := Lib.hid (decide_eq_true hm)
    have HW : Hid (withI l z = l) := by show _ = _; unfold withI; rw [if_pos hm]
    have HN : Hid (∀ (ob : Obj) j u, (l.map (Value.int .i64))[j]? = some u → (w.alloc ob).cell? ((⟨g, 0, none⟩ : Addr).add j) = some u) := fun ob j u hj => by
      have := ints_news h j u hj
      rw [Go.WideShapes.add_plain] at this ⊢
      rw [World.cell?_alloc_lt w ob _ hg]; exact this
    clear hm
    go_enter Tryz.func168, Tryz.ntmps168
    go_wp2_with fail
    refine (l2In_any _ _ _ l _ _ h).mono ?_
    rintro e w1 ⟨rfl, rfl⟩
    rw [HM.out]
    go_wp2_with (at_builtin; refine wpList_pushG _ rfl _ _ 25 2 (.int .i64 0) 1 8 rfl Tryz.underlying25 info_i64' rfl (by omega) w.heap.size _ 0 0 [] rfl (own_empty2 w _ (Nat.le_refl _)).1 ⟨g, 0, none⟩ n c (l.map (Value.int .i64)) rfl (by rw [List.length_map, HL.out]; omega) (HN.out _) (fun u hu => by obtain ⟨y, _, rfl⟩ := List.mem_map.1 hu; rfl) (by unfold maxLen; omega) (by omega) (by simp) ?_)
    intro a1 c1 w1 hown hgr
    have hb1 : Below w.heap.size w w1 := ((Below.refl _ _).alloc (Nat.le_refl _) _).grown hgr.1 (by simp) (fun k hk => by simp [Value.ownBlock] at hk; omega)
    have hown' : Own w1 w.heap.size a1 n c1 l := ⟨by simpa using hown, by omega, h.2.2.1⟩
    clear hown
    clear hgr
    go_wp2
    go_ret
    exact ⟨a1, n, c1, rfl, by rw [HW.out]; exact hown', hb1⟩
  · have HM := Lib.hid (decide_eq_false hm)
    have HW : Hid (withI l z = putI z l) := by show _ = _; unfold withI; rw [if_neg hm]
    clear hm
    go_enter Tryz.func168, Tryz.ntmps168
    go_wp2_with fail
    refine (l2In_any _ _ _ l _ _ h).mono ?_
    rintro e w1 ⟨rfl, rfl⟩
    rw [HM.out]
    go_wp2
    go_loopw [5, 6, 7] (fun ov pv i wr => ∃ (k : Nat) (put : Bool) (a1 : Option Addr) (n1 c1 : Nat) (out : List Int), k ≤ n ∧ i = .int .i64 k ∧ pv = .bool put ∧ ov = .slice a1 n1 c1 ∧ PutSt z l k put out ∧ Own wr w.heap.size a1 n1 c1 out ∧ Below w.heap.size w wr) (fun _ _ i _ => n - (intOf i).toNat)
    case atStart => exact ⟨0, false, _, _, _, [], Nat.zero_le _, rfl, rfl, rfl, PutSt.start _ _, own_empty2 w _ (Nat.le_refl _), (Below.refl _ _).alloc (Nat.le_refl _) _⟩
    case round =>
      obtain ⟨k, put, a1, n1, c1, out, hk, rfl, rfl, rfl, hst, hown, hbel⟩ := hrel
      have hbs : w.heap.size ≤ wr.heap.size := hbel.size
      have hn1 : n1 ≤ 3001 := by have := hst.len (by rw [HL.out]; exact hk); have := hown.len; have := HL.out; omega
      by_cases hlt : k < n
      · obtain ⟨b, o, x, e0, hb, hx, hin, hc⟩ := (h.below hbel).at_ hlt
        injection e0 with e0
        injection e0 with e1 e2
        subst e1 e2
        rw [Nat.zero_add] at hc
        cases put with
        | true =>
          have hst2 := hst.keep (by rw [HL.out]; exact hlt) hx
          go_wp2_with (at_builtin; refine wpList_pushI _ rfl _ _ rfl w.heap.size _ _ _ out rfl (hown.alloc2 _) wr.heap.size x rfl (by simp) hin (by omega) (by simp; omega) ?_)
          intro a2 c2 w2 hown2 hgr2
          have hb2 : Below w.heap.size w w2 := (hbel.alloc hbs _).grown hgr2.1 (by simp; omega) (fun g hg => (hown.block g hg).1)
          clear hown hgr2 hbel
          go_wp2
          go_roundw
          case rel => exact ⟨k + 1, true, a2, n1 + 1, c2, _, by omega, by go_num, rfl, rfl, hst2, hown2, hb2⟩
          case measure => simp [intOf]; omega
        | false =>
          by_cases hzx : z < x
          · have hst2 := hst.put (by rw [HL.out]; exact hlt) hx hzx
            go_wp2_with (at_builtin; refine wpList_pushI _ rfl _ _ rfl w.heap.size _ _ _ out rfl (hown.alloc2 _) wr.heap.size z rfl (by simp) hz (by omega) (by simp; omega) ?_)
            intro a2 c2 w2 hown2 hgr2
            have hb2 : Below w.heap.size w w2 := (hbel.alloc hbs _).grown hgr2.1 (by simp; omega) (fun g hg => (hown.block g hg).1)
            have hbs2 : w.heap.size ≤ w2.heap.size := hb2.size
            have hc2 : w2.cell? ⟨g, k, none⟩ = some (.int .i64 x) := (hb2.cell hg).trans (((hbel.cell hg).symm).trans hc)
            clear hown hgr2 hbel hc
            go_wp2_with (at_builtin; refine wpList_pushI _ rfl _ _ rfl w.heap.size _ _ _ (out ++ [z]) rfl (hown2.alloc2 _) w2.heap.size x rfl (by simp) hin (by omega) (by simp; omega) ?_)
            intro a3 c3 w3 hown3 hgr3
            have hb3 : Below w.heap.size w w3 := (hb2.alloc hbs2 _).grown hgr3.1 (by simp; omega) (fun g hg => (hown2.block g hg).1)
            clear hown2 hgr3 hb2
            go_wp2
            go_roundw
            case rel => exact ⟨k + 1, true, a3, n1 + 1 + 1, c3, _, by omega, by go_num, rfl, rfl, hst2, hown3, hb3⟩
            case measure => simp [intOf]; omega
          · have hst2 := hst.wait (by rw [HL.out]; exact hlt) hx hzx
            go_wp2_with (at_builtin; refine wpList_pushI _ rfl _ _ rfl w.heap.size _ _ _ out rfl (hown.alloc2 _) wr.heap.size x rfl (by simp) hin (by omega) (by simp; omega) ?_)
            intro a2 c2 w2 hown2 hgr2
            have hb2 : Below w.heap.size w w2 := (hbel.alloc hbs _).grown hgr2.1 (by simp; omega) (fun g hg => (hown.block g hg).1)
            clear hown hgr2 hbel
            go_wp2
            go_roundw
            case rel => exact ⟨k + 1, false, a2, n1 + 1, c2, _, by omega, by go_num, rfl, rfl, hst2, hown2, hb2⟩
            case measure => simp [intOf]; omega
      · obtain rfl : n = k := by omega
        cases put with
        | true =>
          have hd := hst.done_put (by rw [HL.out]; exact Nat.le_refl _)
          subst hd
          go_wp2
          go_ret
          exact ⟨a1, n1, c1, rfl, by rw [HW.out]; exact hown, hbel⟩
        | false =>
          have HD := Lib.hid (hst.done_wait (by rw [HL.out]; exact Nat.le_refl _))
          go_wp2_with (at_builtin; refine wpList_pushI _ rfl _ _ rfl w.heap.size _ _ _ out rfl (hown.alloc2 _) wr.heap.size z rfl (by simp) hz (by omega) (by simp; omega) ?_)
          intro a2 c2 w2 hown2 hgr2
          have hb2 : Below w.heap.size w w2 := (hbel.alloc hbs _).grown hgr2.1 (by simp; omega) (fun g hg => (hown.block g hg).1)
          rw [HD.out] at hown2
          clear hown hgr2 hbel
          go_wp2
          go_ret
          exact ⟨a2, _, c2, rfl, by rw [HW.out]; exact hown2, hb2⟩

theorem withI_pos (l : List Int) (z : Int) : 0 < (withI l z).length := by
  unfold withI
  by_cases h : z ∈ l
  · rw [if_pos h]; exact List.length_pos_of_mem h
  · rw [if_neg h]
    cases l with
    | nil => simp [putI]
    | cons x r => simp only [putI]; split <;> simp
theorem own_someN {w : World} {B : Nat} {a : Option Addr} {n c : Nat} {zs : List Int} (h : Own w B a n c zs) (hp : 0 < zs.length) : ∃ g, a = some ⟨g, 0, none⟩ ∧ B ≤ g ∧ g < w.heap.size := by
  have hl := h.len
  rcases h.1.2 with ⟨_, h0⟩ | ⟨g, cap, cur, e, hb, hg, _⟩
  · omega
  · exact ⟨g, by injection e, hb, (Array.getElem?_eq_some_iff.1 hg).1⟩

/-- The names of one Op among the first k, rising. -/
def NamesTo (op : Int) (ts : List Tm) (k : Nat) (l : List Int) : Prop := Rise l ∧ (∀ x, x ∈ l ↔ (op, x) ∈ ts.take k) ∧ l.length ≤ k
theorem NamesTo.zero (op : Int) (ts : List Tm) : NamesTo op ts 0 [] := ⟨by simp [Rise], fun x => by simp, by simp⟩
theorem NamesTo.other {op : Int} {ts : List Tm} {k : Nat} {l : List Int} {t : Tm} (h : NamesTo op ts k l) (hk : k < ts.length) (ht : Hid (tmAt ts k = t)) (hne : t.1 ≠ op) : NamesTo op ts (k + 1) l := by
  refine ⟨h.1, fun x => ?_, by have := h.2.2; omega⟩
  rw [h.2.1, tm_snoc ts k hk, ht.out, List.mem_append, List.mem_singleton]
  constructor
  · exact .inl
  · rintro (h' | h')
    · exact h'
    · exact absurd (by rw [← h']) hne
theorem withI_len (l : List Int) (z : Int) : (withI l z).length ≤ l.length + 1 := by
  unfold withI
  by_cases h : z ∈ l
  · rw [if_pos h]; omega
  · rw [if_neg h]
    have := (PutSt.start z l)
    have hp : ∀ l : List Int, (putI z l).length = l.length + 1 := by
      intro l
      induction l with
      | nil => rfl
      | cons x r ih =>
        simp only [putI]
        split
        · rfl
        · simp [ih]
    rw [hp]; omega
theorem NamesTo.same {op z : Int} {ts : List Tm} {k : Nat} {l : List Int} (h : NamesTo op ts k l) (hk : k < ts.length) (ht : Hid (tmAt ts k = (op, z))) : NamesTo op ts (k + 1) (withI l z) := by
  have hw := withI_is z h.1
  refine ⟨hw.1, fun x => ?_, by have := withI_len l z; have := h.2.2; omega⟩
  rw [hw.2, h.2.1, tm_snoc ts k hk, ht.out, List.mem_append, List.mem_singleton]
  constructor
  · rintro (h' | h')
    · exact .inr (by rw [h'])
    · exact .inl h'
  · rintro (h' | h')
    · exact .inr h'
    · injection h' with _ h'; exact .inl h'
theorem NamesTo.done {op : Int} {ts : List Tm} {n : Nat} {l : List Int} (h : NamesTo op ts n l) (hn : ts.length ≤ n) (hok : expB ts = true) : l = nmB op ts := by
  unfold nmB
  rw [if_pos hok]
  refine riseL_eq h.1 (fun x => ?_)
  rw [h.2.1, List.take_of_length_le hn, mem_namesOf]
theorem Own2.fresh_left {w w' : World} {B : Nat} {r r' s : Sl} {zs zs' ys : List Int} (h : Own2 w B r s zs ys) (hb : Below w.heap.size w w') (ho : Own w' w.heap.size r'.1 r'.2.1 r'.2.2 zs') (hB : B ≤ w.heap.size) : Own2 w' B r' s zs' ys :=
  ⟨ho.base hB, h.2.1.below hb, fun g hg e => by have := (ho.block g hg).1; have := (h.2.1.block g e).2; omega⟩
theorem Own2.fresh_right {w w' : World} {B : Nat} {r s s' : Sl} {zs ys ys' : List Int} (h : Own2 w B r s zs ys) (hb : Below w.heap.size w w') (ho : Own w' w.heap.size s'.1 s'.2.1 s'.2.2 ys') (hB : B ≤ w.heap.size) : Own2 w' B r s' zs ys' :=
  ⟨h.1.below hb, ho.base hB, fun g hg e => by have := (ho.block g e).1; have := (h.1.block g hg).2; omega⟩
theorem own2_empty (w : World) : Own2 ((w.alloc (.cells #[] 2)).alloc (.cells #[] 2)) w.heap.size (some ⟨w.heap.size, 0, none⟩, 0, 0) (some ⟨w.heap.size + 1, 0, none⟩, 0, 0) [] [] := by
  refine ⟨(own_empty2 w _ (Nat.le_refl _)).alloc2 _, ?_, fun g hg e => ?_⟩
  · have := own_empty2 (w.alloc (.cells #[] 2)) w.heap.size (by simp)
    simpa using this
  · simp [slV, Value.ownBlock] at hg e
    omega

set_option maxRecDepth 100000 in
set_option maxHeartbeats 1600000 in
theorem specNamesIn_any (a : Option Addr) (n c : Nat) (ts : List Tm) (w : World) (h : Terms w a n ts) :
    Calls Tryz.prog 109 #[.slice a n c] w (MadeN w ts) := by
  have HL := Lib.hid h.1
  have hem := own2_empty w
  have hbA : Below w.heap.size w ((w.alloc (.cells #[] 2)).alloc (.cells #[] 2)) := ((Below.refl _ _).alloc (Nat.le_refl _) _).alloc (by simp) _
  cases hok : expB ts with
  | false =>
    have HN1 : Hid (nmB 1 ts = []) := by show _ = _; unfold nmB; rw [hok]; rfl
    have HN2 : Hid (nmB 2 ts = []) := by show _ = _; unfold nmB; rw [hok]; rfl
    have HK := Lib.hid hok
    clear hok
    go_enter Tryz.func109, Tryz.ntmps109
    go_wp2_with fail
    refine (specExpOk_any _ _ _ ts _ (h.below (Nat.le_refl _) hbA)).mono ?_
    rintro e w1 ⟨rfl, hb1⟩
    rw [HK.out]
    go_wp2_with fail
    go_ret2
    exact ⟨_, _, rfl, by rw [HN1.out, HN2.out]; exact hem.below hb1, hbA.trans (hb1.mono hbA.size)⟩
  | true =>
    have HK := Lib.hid hok
    have hn : n ≤ 3000 := by have := ((expB_iff ts).1 hok).1; have := HL.out; omega
    clear hok
    go_enter Tryz.func109, Tryz.ntmps109
    go_wp2_with fail
    refine (specExpOk_any _ _ _ ts _ (h.below (Nat.le_refl _) hbA)).mono ?_
    rintro e w1 ⟨rfl, hb1⟩
    rw [HK.out]
    have hem1 := hem.below hb1
    have ht1 := hbA.trans (hb1.mono hbA.size)
    clear hem hb1 hbA
    go_wp2
    go_loopw [4, 5, 6] (fun vv av i wr => ∃ (k g1 n1 c1 g2 n2 c2 : Nat) (zs ys : List Int), k ≤ n ∧ i = .int .i64 k ∧ vv = .slice (some ⟨g1, 0, none⟩) n1 c1 ∧ av = .slice (some ⟨g2, 0, none⟩) n2 c2 ∧ Own2 wr w.heap.size (some ⟨g1, 0, none⟩, n1, c1) (some ⟨g2, 0, none⟩, n2, c2) zs ys ∧ NamesTo 1 ts k zs ∧ NamesTo 2 ts k ys ∧ Below w.heap.size w wr) (fun _ _ i _ => n - (intOf i).toNat)
    case atStart => exact ⟨0, _, _, _, _, _, _, [], [], Nat.zero_le _, rfl, rfl, rfl, hem1, NamesTo.zero _ _, NamesTo.zero _ _, ht1⟩
    case round =>
      clear hem1 ht1
      obtain ⟨k, g1, n1, c1, g2, n2, c2, zs, ys, hk, rfl, rfl, rfl, ho, hz1, hy1, hbel⟩ := hrel
      have hbs : w.heap.size ≤ wr.heap.size := hbel.size
      by_cases hlt : k < n
      · obtain ⟨b, o, x, y, rfl, hb, hz, hin1, hin2, hc1, hc2⟩ := (h.below (Nat.le_refl _) hbel).at_ hlt
        have hkt : k < ts.length := by rw [HL.out]; exact hlt
        have hg1 : g1 < wr.heap.size := (ho.1.block g1 rfl).2
        have hg2 : g2 < wr.heap.size := (ho.2.1.block g2 rfl).2
        have hn1 : n1 ≤ 3000 := by have := ho.1.len; simp only [] at this; have := hz1.2.2; omega
        have hn2 : n2 ≤ 3000 := by have := ho.2.1.len; simp only [] at this; have := hy1.2.2; omega
        by_cases hx1 : x = 1
        · subst hx1
          have hz2 := hz1.same hkt hz
          have hy2 := hy1.other hkt hz (by simp)
          have hpos := withI_pos zs y
          go_wp2_with fail
          refine (l2With_any g1 n1 c1 zs y _ ho.1.ints hg1 hin2 hn1).mono ?_
          rintro e w2 ⟨a2, m2, d2, rfl, ho2, hb2⟩
          obtain ⟨g3, rfl, _, _⟩ := own_someN ho2 hpos
          have ho3 := ho.fresh_left (r' := (some ⟨g3, 0, none⟩, m2, d2)) hb2 ho2 hbs
          have ht2 := hbel.trans (hb2.mono hbs)
          clear ho ho2 hb2 hbel hc1 hc2
          go_wp2
          go_roundw
          case rel => exact ⟨k + 1, g3, m2, d2, g2, n2, c2, _, _, by omega, by go_num, rfl, rfl, ho3, hz2, hy2, ht2⟩
          case measure => simp [intOf]; omega
        by_cases hx2 : x = 2
        · subst hx2
          have hz2 := hz1.other hkt hz (by simp)
          have hy2 := hy1.same hkt hz
          have hpos := withI_pos ys y
          go_wp2_with fail
          refine (l2With_any g2 n2 c2 ys y _ ho.2.1.ints hg2 hin2 hn2).mono ?_
          rintro e w2 ⟨a2, m2, d2, rfl, ho2, hb2⟩
          obtain ⟨g3, rfl, _, _⟩ := own_someN ho2 hpos
          have ho3 := ho.fresh_right (s' := (some ⟨g3, 0, none⟩, m2, d2)) hb2 ho2 hbs
          have ht2 := hbel.trans (hb2.mono hbs)
          clear ho ho2 hb2 hbel hc1 hc2
          go_wp2
          go_roundw
          case rel => exact ⟨k + 1, g1, n1, c1, g3, m2, d2, _, _, by omega, by go_num, rfl, rfl, ho3, hz2, hy2, ht2⟩
          case measure => simp [intOf]; omega
        · have hz2 := hz1.other hkt hz (by simpa using hx1)
          have hy2 := hy1.other hkt hz (by simpa using hx2)
          have e1 : (x == 1) = false := by simpa using hx1
          have e2 : (x == 2) = false := by simpa using hx2
          go_wp2
          go_roundw
          case rel => exact ⟨k + 1, g1, n1, c1, g2, n2, c2, _, _, by omega, by go_num, rfl, rfl, ho, hz2, hy2, hbel⟩
          case measure => simp [intOf]; omega
      · obtain rfl : n = k := by omega
        have e1 := hz1.done (by rw [HL.out]; exact Nat.le_refl _) HK.out
        have e2 := hy1.done (by rw [HL.out]; exact Nat.le_refl _) HK.out
        rw [e1, e2] at ho
        clear hz1 hy1 e1 e2
        go_wp2
        go_ret2
        exact ⟨_, _, rfl, ho, hbel⟩
end Go.Proofs.YtbnpoliogldohaaGreat
/- Two slices of numbers of the call's own: what a draw, a write elsewhere, and marks leave. -/
namespace Go.Proofs.YtbnpoliogldohaaGreat
open Go.RowKit

theorem Own2.still {w w' : World} {B : Nat} {r s : Sl} {zs ys : List Int} (h : Own2 w B r s zs ys) (st : Still w w') : Own2 w' B r s zs ys := ⟨h.1.still st, h.2.1.still st, h.2.2⟩
theorem Own2.other {w w' : World} {B : Nat} {r s : Sl} {zs ys : List Int} {row : Option Nat} (h : Own2 w B r s zs ys) (hg : w.grownBy w' row) (hr : ∀ g, row = some g → g < B) : Own2 w' B r s zs ys := ⟨h.1.other hg hr, h.2.1.other hg hr, h.2.2⟩
end Go.Proofs.YtbnpoliogldohaaGreat
/- The contracts of the program's holdersIn, stmtMayTrap, stays. -/
namespace Go.Proofs.YtbnpoliogldohaaGreat
open Go.RowKit

theorem own_box {w w' : World} {B g n c : Nat} {a : Option Addr} {zs : List Int} (h : Own w B a n c zs) (hg : w.grownBy w' (some g)) (hB : g < B) : Own w' B a n c zs := h.other hg (fun j hj => by injection hj with e; omega)
theorem take_more {k : Nat} {kind z : Int} {zs : List Int} {P : Int × Int → Prop} {ks : List (Int × Int)} (hk : k < zs.length) (hz : Hid (z = zs.getD k 0)) (h : ∀ x, x ∈ ks ↔ P x ∨ (x.1 = kind ∧ x.2 ∈ zs.take k)) : ∀ x, x ∈ addK ks (kind, z) ↔ P x ∨ (x.1 = kind ∧ x.2 ∈ zs.take (k + 1)) := by
  intro x
  rw [mem_addK, h, take_at hk hz, List.mem_append, List.mem_singleton]
  obtain ⟨a, b⟩ := x
  simp only [Prod.mk.injEq]
  constructor
  · rintro ((h | ⟨h1, h2⟩) | ⟨h1, h2⟩)
    · exact .inl h
    · exact .inr ⟨h1, .inl h2⟩
    · exact .inr ⟨h1, .inr h2⟩
  · rintro (h | ⟨h1, h2 | h2⟩)
    · exact .inl (.inl h)
    · exact .inl (.inr ⟨h1, h2⟩)
    · exact .inr ⟨h1, h2⟩
/-- The holders in an expression. -/
def HoldsOf (ts : List Tm) (ks : List (Int × Int)) : Prop := ∀ h, h ∈ ks ↔ (h.1 = 0 ∧ h.2 ∈ nmB 1 ts) ∨ (h.1 = 1 ∧ h.2 ∈ nmB 2 ts)
set_option maxRecDepth 100000 in
set_option maxHeartbeats 1600000 in
theorem holdersIn_any (a : Option Addr) (n c : Nat) (ts : List Tm) (w : World) (h : Terms w a n ts) :
    Calls Tryz.prog 163 #[.slice a n c] w fun e w' => ∃ g ks, e = .returned (.map (some g)) ∧ w.heap.size ≤ g ∧ KSet holdV w' g ks ∧ HoldsOf ts ks ∧ Below w.heap.size w w' := by
  have hmm := @run_makeMap Tryz.prog
  have HT := Lib.hid (fun o => h.below (Nat.le_refl _) ((Below.refl w.heap.size w).alloc (Nat.le_refl _) o))
  clear h
  go_enter Tryz.func163, Tryz.ntmps163
  go_wp2_with fail
  refine (namesIn_any a n c ts _ (HT.out _)).mono ?_
  rintro e w1 ⟨⟨a1, n1, c1⟩, ⟨a2, n2, c2⟩, rfl, ⟨o1, o2, _⟩, hb1⟩
  obtain ⟨zs, HZ⟩ : ∃ zs, Hid (nmB 1 ts = zs) := ⟨_, rfl⟩
  obtain ⟨ys, HY⟩ : ∃ ys, Hid (nmB 2 ts = ys) := ⟨_, rfl⟩
  rw [HZ.out] at o1
  rw [HY.out] at o2
  have hbw : Below w.heap.size w w1 := ((Below.refl w.heap.size w).alloc (Nat.le_refl _) _).trans (hb1.mono (by simp))
  have HK0 : Hid (KSet holdV w1 w.heap.size ([] : List (Int × Int))) := Lib.hid ((kset_made w).below hb1 (by simp))
  have hn1 := o1.2.1
  have hn2 := o2.2.1
  have HL1 := Lib.hid o1.len
  have HL2 := Lib.hid o2.len
  have hsz : (w.alloc (.map #[] 0)).heap.size = w.heap.size + 1 := by simp
  rw [hsz] at o1 o2
  clear hb1 hsz HT
  simp only [slV]
  go_wp2_with fail
  go_loopw [18] (fun i wr => ∃ (k : Nat) (ks : List (Int × Int)), k ≤ n1 ∧ i = .int .i64 (k : Int) ∧ KSet holdV wr w.heap.size ks ∧ Hid (∀ x, x ∈ ks ↔ False ∨ (x.1 = 0 ∧ x.2 ∈ zs.take k)) ∧ w1.grownBy wr (some w.heap.size)) (fun i _ => n1 - (intOf i).toNat)
  case atStart => exact ⟨0, [], Nat.zero_le _, rfl, HK0.out, Lib.hid (fun x => by simp), World.grownBy.refl _ _⟩
  case round =>
    obtain ⟨k, ks, hk, rfl, hK, HX, hg⟩ := hrel
    by_cases hlt : k < n1
    · obtain ⟨b, o, z, rfl, hb, hz, hin, hc⟩ := (own_box o1 hg (by omega)).ints.at_ hlt
      have HKK := Lib.hid hK
      clear hK
      go_wp2_with (first
        | (at_mapUpdate; refine wpList_put_set _ rfl _ _ _ _ rfl _ _ keyLaw_hold Tryz.underlying78 w.heap.size ks rfl HKK.out (0, z) rfl rfl ?_; intro w2 hk2 hg2 hs2)
        | go_in)
      have HG2 := Lib.hid (hg.andThen hg2 (fun j hj => .inr hj))
      have HX2 := Lib.hid (take_more (by rw [HL1.out]; exact hlt) hz HX.out)
      clear hg2
      go_wp2
      go_roundw
      case rel => exact ⟨k + 1, _, by omega, by go_num, hk2, HX2, HG2.out⟩
      case measure => simp [intOf]; omega
    · obtain rfl : n1 = k := by omega
      have HX1 : Hid (∀ x, x ∈ ks ↔ (x.1 = 0 ∧ x.2 ∈ zs) ∨ (x.1 = 1 ∧ x.2 ∈ ys.take 0)) := Lib.hid (fun x => by
        have := HX.out x
        rw [List.take_of_length_le (by rw [HL1.out]; exact Nat.le_refl _)] at this
        rw [this]; simp)
      have HG := Lib.hid hg
      clear hg
      go_wp2_with fail
      go_loopw [28] (fun i wr => ∃ (k : Nat) (ks : List (Int × Int)), k ≤ n2 ∧ i = .int .i64 (k : Int) ∧ KSet holdV wr w.heap.size ks ∧ Hid (∀ x, x ∈ ks ↔ (x.1 = 0 ∧ x.2 ∈ zs) ∨ (x.1 = 1 ∧ x.2 ∈ ys.take k)) ∧ w1.grownBy wr (some w.heap.size)) (fun i _ => n2 - (intOf i).toNat)
      case atStart => exact ⟨0, ks, Nat.zero_le _, rfl, hK, HX1, HG.out⟩
      case round =>
        obtain ⟨k, ks, hk, rfl, hK, HX, hg⟩ := hrel
        by_cases hlt : k < n2
        · obtain ⟨b, o, z, rfl, hb, hz, hin, hc⟩ := (own_box o2 hg (by omega)).ints.at_ hlt
          have HKK := Lib.hid hK
          clear hK
          go_wp2_with (first
            | (at_mapUpdate; refine wpList_put_set _ rfl _ _ _ _ rfl _ _ keyLaw_hold Tryz.underlying78 w.heap.size ks rfl HKK.out (1, z) rfl rfl ?_; intro w2 hk2 hg2 hs2)
            | go_in)
          have HG2 := Lib.hid (hg.andThen hg2 (fun j hj => .inr hj))
          have HX2 := Lib.hid (take_more (by rw [HL2.out]; exact hlt) hz HX.out)
          clear hg2
          go_wp2
          go_roundw
          case rel => exact ⟨k + 1, _, by omega, by go_num, hk2, HX2, HG2.out⟩
          case measure => simp [intOf]; omega
        · obtain rfl : n2 = k := by omega
          have HF : Hid (Below w.heap.size w wr) := Lib.hid ⟨hg.os.trans hbw.os, hg.tape.trans hbw.tape, hg.output.trans hbw.output, Nat.le_trans hbw.size hg.size, fun i hi => (hg.block i (Nat.lt_of_lt_of_le hi hbw.size) (by intro e; injection e with e; omega)).trans (hbw.block i hi)⟩
          have HX3 : Hid (HoldsOf ts ks) := Lib.hid (fun x => by
            have := HX.out x
            rw [List.take_of_length_le (by rw [HL2.out]; exact Nat.le_refl _)] at this
            rw [HZ.out, HY.out]
            exact this)
          clear hg
          go_wp2
          go_ret
          exact ⟨_, ks, rfl, Nat.le_refl _, hK, HX3.out, HF.out⟩
end Go.Proofs.YtbnpoliogldohaaGreat
/- The contract of the program's freshIn. -/
namespace Go.Proofs.YtbnpoliogldohaaGreat
open Go.RowKit

/-- The variables, the arrays of a statement. -/
def nm1 (s : Stm) : List Int := nmB 1 s.at_ ++ nmB 1 s.exp
def nm2 (s : Stm) : List Int := nmB 2 s.at_ ++ nmB 2 s.exp
theorem mem_nmH {s : Stm} {x : Int × Int} {K1 K2 : List (Int × Int)} (h1 : HoldsOf s.at_ K1) (h2 : HoldsOf s.exp K2) : x ∈ namesH nm1 nm2 s ↔ x ∈ K1 ∨ x ∈ K2 := by
  rw [mem_namesH, h1, h2]
  simp only [nm1, nm2, List.mem_append]
  constructor
  · rintro (⟨e, h | h⟩ | ⟨e, h | h⟩) <;> simp [e, h]
  · rintro ((⟨e, h⟩ | ⟨e, h⟩) | (⟨e, h⟩ | ⟨e, h⟩)) <;> simp [e, h]
def FreshTo (p : Prg) (ks : List (Int × Int)) (k : Nat) (F : List (Int × Int)) : Prop := ∀ x, x ∈ F ↔ ∃ i, i < k ∧ staysQ p (stAt p.body i) ks = true ∧ x ∈ namesH nm1 nm2 (stAt p.body i)
def FreshQ (p : Prg) (ks F : List (Int × Int)) : Prop := ∀ x, x ∈ F ↔ (∃ s ∈ p.body, staysQ p s ks = true ∧ x ∈ namesH nm1 nm2 s) ∧ x ∉ ks
theorem FreshTo.zero (p : Prg) (ks : List (Int × Int)) : FreshTo p ks 0 [] := fun x => by simp
theorem FreshTo.skip {p : Prg} {ks F : List (Int × Int)} {k : Nat} {s : Stm} (h : FreshTo p ks k F) (hs : Hid (stAt p.body k = s)) (hq : Hid (staysQ p s ks = false)) : FreshTo p ks (k + 1) F := by
  intro x
  rw [h]
  constructor
  · rintro ⟨i, hi, r⟩; exact ⟨i, by omega, r⟩
  · rintro ⟨i, hi, r1, r2⟩
    rcases Nat.lt_or_ge i k with h' | h'
    · exact ⟨i, h', r1, r2⟩
    · have : i = k := by omega
      subst this
      rw [hs.out, hq.out] at r1; cases r1
theorem FreshTo.more {p : Prg} {ks F F2 F3 K1 K2 : List (Int × Int)} {k : Nat} {s : Stm} (h : FreshTo p ks k F) (hs : Hid (stAt p.body k = s)) (hq : Hid (staysQ p s ks = true)) (h1 : HoldsOf s.at_ K1) (h2 : HoldsOf s.exp K2) (e1 : ∀ x, x ∈ F2 ↔ x ∈ F ∨ x ∈ K1) (e2 : ∀ x, x ∈ F3 ↔ x ∈ F2 ∨ x ∈ K2) : FreshTo p ks (k + 1) F3 := by
  intro x
  rw [e2, e1, h]
  have hm := mem_nmH (x := x) h1 h2
  constructor
  · rintro ((⟨i, hi, r⟩ | h') | h')
    · exact ⟨i, by omega, r⟩
    · exact ⟨k, by omega, by rw [hs.out, hq.out], by rw [hs.out, hm]; exact .inl h'⟩
    · exact ⟨k, by omega, by rw [hs.out, hq.out], by rw [hs.out, hm]; exact .inr h'⟩
  · rintro ⟨i, hi, r1, r2⟩
    rcases Nat.lt_or_ge i k with h' | h'
    · exact .inl (.inl ⟨i, h', r1, r2⟩)
    · have : i = k := by omega
      subst this
      rw [hs.out, hm] at r2
      rcases r2 with r2 | r2
      · exact .inl (.inr r2)
      · exact .inr r2
theorem fresh_done {p : Prg} {ks F F' : List (Int × Int)} (h : FreshTo p ks p.body.length F) (h' : ∀ x, x ∈ F' ↔ x ∈ F ∧ x ∉ ks) : FreshQ p ks F' := by
  intro x
  rw [h', h]
  constructor
  · rintro ⟨⟨i, hi, r⟩, hn⟩; exact ⟨⟨_, stAt_mem hi, r⟩, hn⟩
  · rintro ⟨⟨s, hs, r⟩, hn⟩
    obtain ⟨i, hi, rfl⟩ := List.getElem_of_mem hs
    refine ⟨⟨i, hi, ?_⟩, hn⟩
    have e : stAt p.body i = p.body[i] := by simp [stAt, List.getD_eq_getElem?_getD, hi]
    rw [e]; exact r
/-- The box of the program, and the set behind it. -/
structure FB (w wi : World) (cs : List Value) : Prop where
  box : Blk wi w.heap.size 28 cs
  bel : Below w.heap.size w wi
  far : w.heap.size + 1 < wi.heap.size
theorem FB.below {w wi wj : World} {cs : List Value} (h : FB w wi cs) (hb : Below wi.heap.size wi wj) : FB w wj cs := ⟨h.box.below hb h.box.lt, h.bel.trans (hb.mono h.bel.size), Nat.lt_of_lt_of_le h.far hb.size⟩
theorem FB.put {w wi wj : World} {cs : List Value} (h : FB w wi cs) {g : Nat} (hg : wi.grownBy wj (some g)) (hlt : w.heap.size < g) : FB w wj cs := by
  refine ⟨(hg.block _ h.box.lt (by intro e; injection e with e; omega)).trans h.box, ⟨hg.os.trans h.bel.os, hg.tape.trans h.bel.tape, hg.output.trans h.bel.output, Nat.le_trans h.bel.size hg.size, fun i hi => (hg.block i (Nat.lt_of_lt_of_le hi h.bel.size) (by intro e; injection e with e; omega)).trans (h.bel.block i hi)⟩, Nat.lt_of_lt_of_le h.far hg.size⟩
theorem blk_grown {w w' : World} {b g t : Nat} {xs : List Value} (h : Blk w b t xs) (hg : w.grownBy w' (some g)) (hne : b ≠ g) : Blk w' b t xs := (hg.block b h.lt (by intro e; injection e with e; exact hne e)).trans h
theorem drop_mem {κ : Type} [DecidableEq κ] {F F' ks left : List κ} {y : κ} (h : ∀ x, x ∈ F' ↔ x ∈ F ∧ ¬ (x ∈ ks ∧ x ∉ left)) (hy : y ∈ ks) : ∀ x, x ∈ F'.filter (fun z => decide (z ≠ y)) ↔ x ∈ F ∧ ¬ (x ∈ ks ∧ x ∉ left.filter (fun z => decide (z ≠ y))) := by
  intro x
  simp only [List.mem_filter, decide_eq_true_eq, ne_eq, h]
  by_cases hxy : x = y
  · subst hxy; simp [hy]
  · simp [hxy]
set_option maxRecDepth 100000 in
set_option maxHeartbeats 6400000 in
theorem freshIn_any (r : PRow) (p : Prg) (b : Nat) (ks : List (Int × Int)) (w : World) (h : ProgAt w r p) (hz : codeB p = 0) (hk : KSet holdV w b ks) :
    Calls Tryz.prog 101 #[progV r, .map (some b)] w fun e w' => ∃ g F, e = .returned (.map (some g)) ∧ w.heap.size ≤ g ∧ KSet holdV w' g F ∧ Hid (FreshQ p ks F) ∧ Below w.heap.size w w' := by
  have hmm := @run_makeMap Tryz.prog
  have HST : Hid (∀ (x y : Int) (b1 b2 : Option Addr) (m1 m2 d1 d2 : Nat) (ts us : List Tm) (w' : World), Below w.heap.size w w' → (∃ k, k < p.body.length ∧ Hid (stAt p.body k = ⟨x, y, ts, us⟩)) → Terms w' b1 m1 ts → Terms w' b2 m2 us → Calls Tryz.prog 51 #[progV r, .agg #[.int .i64 x, .int .i64 y, .slice b1 m1 d1, .slice b2 m2 d2], .map (some b)] w' fun e w'' => e = .returned (.bool (staysQ p ⟨x, y, ts, us⟩ ks)) ∧ Below w'.heap.size w' w'') :=
    Lib.hid (fun x y b1 b2 m1 m2 d1 d2 ts us w' hw ⟨k, hkl, hks⟩ h1 h2 => stays_any r p x y b1 b2 m1 m2 d1 d2 ts us b ks w' (h.below hw) hz (by have := right_all hz _ (stAt_mem hkl); rw [hks.out] at this; exact this) h1 h2 (hk.below hw hk.lt))
  have HKS := Lib.hid (fun w' (hw : Below w.heap.size w w') => hk.below hw hk.lt)
  have hbl := hk.lt
  have HBD := Lib.hid (fun w' (hw : Below w.heap.size w w') => h.body.below hw)
  have HL := Lib.hid h.body.2.1
  have hn4 := h.body.2.2.1
  obtain ⟨wd, ⟨a1, n1, c1⟩, ⟨a2, n2, c2⟩, tp, ⟨a3, n3, c3⟩, ⟨a4, n4, c4⟩, rows⟩ := r
  simp only [] at HBD HL hn4
  clear h hz hk
  show Calls Tryz.prog 101 #[.agg #[.int .i64 wd, .slice a1 n1 c1, .slice a2 n2 c2, .int .i64 tp, .slice a3 n3 c3, .slice a4 n4 c4], .map (some b)] w _
  obtain ⟨wa, HW⟩ : ∃ wa, Hid (wa = (w.alloc (.cells #[.int .i64 wd, .slice a1 n1 c1, .slice a2 n2 c2, .int .i64 tp, .slice a3 n3 c3, .slice a4 n4 c4] 28)).alloc (.map #[] 0)) := ⟨_, rfl⟩
  have FB0 : FB w wa [.int .i64 wd, .slice a1 n1 c1, .slice a2 n2 c2, .int .i64 tp, .slice a3 n3 c3, .slice a4 n4 c4] := by
    rw [HW.out]
    exact ⟨(Blk.new w _ _).alloc _, ((Below.refl _ _).alloc (Nat.le_refl _) _).alloc (by simp) _, by simp⟩
  have HK0 : Hid (KSet holdV wa (w.heap.size + 1) ([] : List (Int × Int))) := Lib.hid (by
    have := kset_made (κ := Int × Int) (kv := holdV) (w.alloc (.cells #[.int .i64 wd, .slice a1 n1 c1, .slice a2 n2 c2, .int .i64 tp, .slice a3 n3 c3, .slice a4 n4 c4] 28))
    rw [HW.out]; simpa using this)
  go_enter Tryz.func101, Tryz.ntmps101
  go_wp2_with fail
  rw [← HW.out]
  go_loopw [13] (fun i wr => ∃ (k : Nat) (F : List (Int × Int)), k ≤ n4 ∧ i = .int .i64 (k : Int) ∧ KSet holdV wr (w.heap.size + 1) F ∧ Hid (FreshTo p ks k F) ∧ FB w wr [.int .i64 wd, .slice a1 n1 c1, .slice a2 n2 c2, .int .i64 tp, .slice a3 n3 c3, .slice a4 n4 c4]) (fun i _ => n4 - (intOf i).toNat)
  case atStart => exact ⟨0, [], Nat.zero_le _, rfl, HK0.out, Lib.hid (FreshTo.zero _ _), FB0⟩
  case round =>
    obtain ⟨k, F, hk, rfl, hK, HX, hfb⟩ := hrel
    have HKK := Lib.hid hK
    have HFB := Lib.hid hfb
    clear hK hfb
    by_cases hlt : k < n4
    · obtain ⟨sb, so, x, y, p1, m1, d1, p2, m2, d2, ts, us, rfl, hb, hz, hin1, hin2, hc1, hc2, hc3, hc4, hT1, hT2⟩ := (HBD.out w (Below.refl _ _)).at_ hlt
      have hc1 := (HFB.out.bel.cell hb).trans hc1
      have hc2 := (HFB.out.bel.cell hb).trans hc2
      have hc3 := (HFB.out.bel.cell hb).trans hc3
      have hc4 := (HFB.out.bel.cell hb).trans hc4
      obtain ⟨ws, HWS⟩ : ∃ ws, Hid (ws = wr.alloc (.cells #[.int .i64 x, .int .i64 y, .slice p1 m1 d1, .slice p2 m2 d2] 74)) := ⟨_, rfl⟩
      have hbs : Below wr.heap.size wr ws := by rw [HWS.out]; exact (Below.refl _ _).alloc (Nat.le_refl _) _
      have BS : Blk ws wr.heap.size 74 [.int .i64 x, .int .i64 y, .slice p1 m1 d1, .slice p2 m2 d2] := by rw [HWS.out]; exact Blk.new wr _ _
      have HFS := Lib.hid (HFB.out.below hbs)
      have HC := Lib.hid (HST.out x y p1 p2 m1 m2 d1 d2 ts us ws HFS.out.bel ⟨k, by rw [HL.out]; exact hlt, hz⟩ (hT1.below (Nat.le_refl _) HFS.out.bel) (hT2.below (Nat.le_refl _) HFS.out.bel))
      have HT1 := Lib.hid (fun w' (hw : Below w.heap.size w w') => hT1.below (Nat.le_refl _) hw)
      have HT2 := Lib.hid (fun w' (hw : Below w.heap.size w w') => hT2.below (Nat.le_refl _) hw)
      have HBS := Lib.hid BS
      have HBW := Lib.hid hbs
      obtain ⟨q, HQ⟩ : ∃ q, Hid (staysQ p ⟨x, y, ts, us⟩ ks = q) := ⟨_, rfl⟩
      rw [HQ.out] at HC
      have t0 := HFS.out.box.cell (j := 0) rfl
      have t1 := HFS.out.box.cell (j := 1) rfl
      have t2 := HFS.out.box.cell (j := 2) rfl
      have t3 := HFS.out.box.cell (j := 3) rfl
      have t4 := HFS.out.box.cell (j := 4) rfl
      have t5 := HFS.out.box.cell (j := 5) rfl
      rw [HWS.out] at t0 t1 t2 t3 t4 t5
      clear BS hbs hT1 hT2
      go_wp2_with fail
      rw [← HWS.out]
      refine HC.out.mono ?_
      rintro e w1 ⟨rfl, hb1⟩
      have HF1 := Lib.hid (HFS.out.below hb1)
      have S1 := HBS.out.below hb1 HBS.out.lt
      have HK1 := Lib.hid ((HKK.out.below HBW.out HKK.out.lt).below hb1 (Nat.lt_of_lt_of_le HKK.out.lt HBW.out.size))
      have HS1 := Lib.hid S1
      clear t0 t1 t2 t3 t4 t5 hc1 hc2 hc3 hc4 hb1 HC
      cases q with
      | false =>
        clear S1
        go_wp2
        go_roundw
        case rel => exact ⟨k + 1, F, by omega, by go_num, HK1.out, Lib.hid (HX.out.skip hz HQ), HF1.out⟩
        case measure => simp [intOf]; omega
      | true =>
        have u2 := S1.cell (j := 2) rfl
        clear S1
        go_wp2_with fail
        refine (holdersIn_any p1 m1 d1 ts w1 (HT1.out w1 HF1.out.bel)).mono ?_
        rintro e w2 ⟨g1, K1, rfl, hg1, hk1, hh1, hb2⟩
        have HF2 := Lib.hid (HF1.out.below hb2)
        have HK2 := Lib.hid (HK1.out.below hb2 HK1.out.lt)
        have HS2 := Lib.hid (HS1.out.below hb2 HS1.out.lt)
        have hfar := HF1.out.far
        have hsb := HBS.out.lt
        have hfar0 := HFB.out.far
        clear u2 hb2
        go_wp2_with fail
        refine (uniteH_any w2 (w.heap.size + 1) g1 F K1 HK2.out hk1 (by omega)).mono ?_
        rintro e w3 ⟨F2, rfl, hk3, he3, hg3⟩
        have HF3 := Lib.hid (HF2.out.put hg3 (by omega))
        have S3 := blk_grown HS2.out hg3 (by omega)
        have HS3 := Lib.hid S3
        have u3 := S3.cell (j := 3) rfl
        clear S3 hg3
        go_wp2_with fail
        refine (holdersIn_any p2 m2 d2 us w3 (HT2.out w3 HF3.out.bel)).mono ?_
        rintro e w4 ⟨g2, K2, rfl, hg4, hk4, hh4, hb4⟩
        have HF4 := Lib.hid (HF3.out.below hb4)
        have HK4 := Lib.hid (hk3.below hb4 hk3.lt)
        have hfar3 := HF3.out.far
        clear u3 hb4
        go_wp2_with fail
        refine (uniteH_any w4 (w.heap.size + 1) g2 F2 K2 HK4.out hk4 (by omega)).mono ?_
        rintro e w5 ⟨F3, rfl, hk5, he5, hg5⟩
        have HF5 := Lib.hid (HF4.out.put hg5 (by omega))
        clear hg5
        go_wp2
        go_roundw
        case rel => exact ⟨k + 1, F3, by omega, by go_num, hk5, Lib.hid (HX.out.more hz HQ hh1 hh4 he3 he5), HF5.out⟩
        case measure => simp [intOf]; omega
    · obtain rfl : n4 = k := by omega
      have hkb := HKS.out wr HFB.out.bel
      have hfar := HFB.out.far
      have hfl := HFB.out.bel.size
      have HN := Lib.hid (show b ≠ w.heap.size + 1 by omega)
      go_wp2_with (first
        | (at_range; refine wpList_range_set _ rfl _ _ rfl _ _ Tryz.underlying78 b ks rfl hkb ?_; intro w0 hi0 hb0 hs0)
        | go_in)
      go_frame
      have HK1 := Lib.hid (HKK.out.below hb0 HKK.out.lt)
      have HF1 := Lib.hid (HFB.out.below hb0)
      obtain ⟨N, HNN⟩ : ∃ N, Hid (wr.heap.size = N) := ⟨_, rfl⟩
      rw [HNN.out] at hi0 hfar hs0 ⊢
      clear hb0 hkb
      go_loopg [34] ks.length (fun k _ wq => ∃ left F', left.length = k ∧ KIter holdV wq N b ks left ∧ KSet holdV wq (w.heap.size + 1) F' ∧ Hid (∀ x, x ∈ F' ↔ x ∈ F ∧ ¬ (x ∈ ks ∧ x ∉ left)) ∧ FB w wq [.int .i64 wd, .slice a1 n1 c1, .slice a2 n2 c2, .int .i64 tp, .slice a3 n3 c3, .slice a4 n4 c4])
      case atStart => exact ⟨ks, F, rfl, hi0, HK1.out, Lib.hid (fun x => by simp), HF1.out⟩
      case round =>
        obtain ⟨left, F', hlk, hi, hK, HY, hfq⟩ := hrel
        go_wp2_with (first
          | (at_next; refine wpList_next_hold rfl _ rfl N b ks left rfl hi ?_ ?_)
          | go_in)
        · intro h0
          go_wp2
          go_ret
          exact ⟨_, F', rfl, by omega, hK, Lib.hid (fresh_done (by rw [HL.out]; exact HX.out) (fun x => by rw [HY.out, h0]; simp)), hfq.bel⟩
        · intro k0 n0 w1 hst hen
          have HKD := Lib.hid ((hK.kept hst.grown (by intro e; injection e with e; omega)).alloc (.cells #[.int .i64 k0, .int .i64 n0] 118))
          have hx1 := hi.sub _ hst.mem
          go_wp2_with (first
            | (at_delete; refine wpList_delete_set _ rfl _ _ _ _ rfl _ keyLaw_hold Tryz.underlying78 (w.heap.size + 1) F' rfl HKD.out (k0, n0) rfl ?_; intro w2 hk2 hg2 hs2; go_frame)
            | go_in)
          have HF2 := Lib.hid (((hfq.put hst.grown (by omega)).below ((Below.refl w1.heap.size w1).alloc (Nat.le_refl _) (.cells #[.int .i64 k0, .int .i64 n0] 118))).put hg2 (by omega))
          have hi2 := (hst.iter.alloc (.cells #[.int .i64 k0, .int .i64 n0] 118)).kept hg2 (fun e => HN.out (by injection e with e; exact e.symm)) (fun e => by injection e with e; omega)
          have hless := hst.less
          go_roundg (left.filter (fun y => decide (y ≠ (k0, n0)))).length
          case rel => exact ⟨_, _, rfl, hi2, hk2, Lib.hid (drop_mem HY.out hx1), HF2.out⟩
          case measure => omega
end Go.Proofs.YtbnpoliogldohaaGreat
/- What is needed in a right program: which statements count, the names' bounds, both ways of asking for what is fresh. -/
namespace Go.Proofs.YtbnpoliogldohaaGreat
open Go.RowKit

/-- Do all names of a statement count? -/
def cntB (p : Prg) (s : Stm) (V A : List Int) : Bool :=
  if s.op = 2 ∨ s.op = 6 then true else if s.op = 0 then (mayStm p s || decide (s.n ∈ V)) else if s.op = 1 then (mayStm p s || decide (s.n ∈ A)) else false
theorem cntB_mono (p : Prg) : CntMono (cntB p) := by
  intro s V A V' A' hV hA h
  unfold cntB at h ⊢
  by_cases h1 : s.op = 2 ∨ s.op = 6
  · rw [if_pos h1]
  rw [if_neg h1] at h ⊢
  by_cases h2 : s.op = 0
  · rw [if_pos h2, Bool.or_eq_true, decide_eq_true_eq] at h ⊢
    exact h.imp id (hV _)
  rw [if_neg h2] at h ⊢
  by_cases h3 : s.op = 1
  · rw [if_pos h3, Bool.or_eq_true, decide_eq_true_eq] at h ⊢
    exact h.imp id (hA _)
  rw [if_neg h3] at h
  cases h
theorem runD_all : ∀ {ts : List Tm} {d x : Int}, runD d ts = some x → ∀ t ∈ ts, tOkB t = true
  | [], _, _, _, t, ht => by cases ht
  | t :: r, d, x, h, t', ht => by
    rw [runD] at h
    split at h
    · next hc =>
      rcases List.mem_cons.1 ht with rfl | ht
      · exact hc.1
      · exact runD_all h t' ht
    · cases h
theorem nmB_nil (op : Int) : nmB op [] = [] := by
  unfold nmB
  rw [if_neg (by decide)]
theorem nmB_mem {op x : Int} {ts : List Tm} (h : x ∈ nmB op ts) : expB ts = true ∧ (op, x) ∈ ts := by
  unfold nmB at h
  split at h
  · next he => exact ⟨he, mem_namesOf.1 (((riseL_is _).2 x).1 h)⟩
  · cases h
theorem nmB_stand {p : Prg} {ts : List Tm} (h : standQ p ts = true ∨ ts = []) : (∀ x ∈ nmB 1 ts, 0 ≤ x ∧ x < ((p.lows.length + p.secrets.length + p.temps.toNat : Nat) : Int)) ∧ ∀ x ∈ nmB 2 ts, 0 ≤ x ∧ x < (p.arrays.length : Int) := by
  rcases h with h | h
  case inr => subst h; rw [nmB_nil, nmB_nil]; exact ⟨fun x hx => (by cases hx), fun x hx => (by cases hx)⟩
  obtain ⟨T, _, _, _, _, h5, h6⟩ := standQ_tree h
  constructor
  · intro x hx
    have hm := (nmB_mem hx).2
    have := h6 _ hm
    have h0 := (tOkB_iff _).1 (runD_all h5 _ hm)
    simp [nameOk] at this
    simp only [] at h0
    omega
  · intro x hx
    have hm := (nmB_mem hx).2
    have := h6 _ hm
    have h0 := (tOkB_iff _).1 (runD_all h5 _ hm)
    simp [nameOk] at this
    simp only [] at h0
    omega
theorem RightF.stand {p : Prg} {s : Stm} (h : RightF p s) : (standQ p s.at_ = true ∨ s.at_ = []) ∧ (standQ p s.exp = true ∨ s.exp = []) := by
  constructor
  · by_cases h1 : s.op = 1
    · exact .inl (h.at1 h1)
    · exact .inr (h.noat h1)
  · cases hb : bears s.op with
    | true => exact .inl (h.exp hb)
    | false => exact .inr (h.noexp hb)
theorem need_bounds {p : Prg} (hz : codeB p = 0) : ∀ s ∈ p.body, (∀ x ∈ nm1 s, 0 ≤ x ∧ x < ((p.lows.length + p.secrets.length + p.temps.toNat : Nat) : Int)) ∧ ∀ x ∈ nm2 s, 0 ≤ x ∧ x < (p.arrays.length : Int) := by
  intro s hs
  have h := (right_f (right_all hz s hs)).stand
  have h1 := nmB_stand h.1
  have h2 := nmB_stand h.2
  constructor
  · intro x hx
    rcases List.mem_append.1 hx with hx | hx
    · exact h1.1 x hx
    · exact h2.1 x hx
  · intro x hx
    rcases List.mem_append.1 hx with hx | hx
    · exact h1.2 x hx
    · exact h2.2 x hx
/-- Both ways of asking which statements' names are taken. -/
theorem stays_cnt {p : Prg} {s : Stm} (h : RightF p s) (ks : List (Int × Int)) {x : Int × Int} (hx : x ∈ namesH nm1 nm2 s) : staysQ p s ks = cntB p s (hv 0 ks) (hv 1 ks) := by
  unfold staysQ cntB
  have m0 : (s.n ∈ hv 0 ks) ↔ (0, s.n) ∈ ks := mem_hv
  have m1 : (s.n ∈ hv 1 ks) ↔ (1, s.n) ∈ ks := mem_hv
  by_cases h0 : s.op = 0
  · rw [if_pos h0, if_neg (by omega), if_pos h0, Bool.or_comm, decide_eq_decide.2 m0]
  by_cases h1 : s.op = 1
  · rw [if_neg h0, if_pos h1, if_neg (by omega), if_neg h0, if_pos h1, Bool.or_comm, decide_eq_decide.2 m1]
  rw [if_neg h0, if_neg h1]
  by_cases h2 : s.op = 2 ∨ s.op = 6
  · rw [if_pos h2]
  exfalso
  have hb : bears s.op = false := by
    simp only [bears, Bool.or_eq_false_iff, beq_eq_false_iff_ne]
    omega
  have e1 : nm1 s = [] := by rw [nm1, h.noat h1, h.noexp hb, nmB_nil]; rfl
  have e2 : nm2 s = [] := by rw [nm2, h.noat h1, h.noexp hb, nmB_nil]; rfl
  rcases mem_namesH.1 hx with ⟨_, hx⟩ | ⟨_, hx⟩
  · rw [e1] at hx; cases hx
  · rw [e2] at hx; cases hx
theorem fresh_of {p : Prg} (hz : codeB p = 0) {ks F : List (Int × Int)} (h : FreshQ p ks F) : FreshOf (cntB p) nm1 nm2 p.body ks F := by
  intro x
  rw [h]
  constructor
  · rintro ⟨⟨s, hs, h1, h2⟩, hn⟩
    exact ⟨⟨s, hs, by rw [← stays_cnt (right_f (right_all hz s hs)) ks h2]; exact h1, h2⟩, hn⟩
  · rintro ⟨⟨s, hs, h1, h2⟩, hn⟩
    exact ⟨⟨s, hs, by rw [stays_cnt (right_f (right_all hz s hs)) ks h2]; exact h1, h2⟩, hn⟩
/-- All holders of a body. -/
def allH (p : Prg) : List (Int × Int) := p.body.flatMap (namesH nm1 nm2)
theorem fresh_all {p : Prg} {ks F : List (Int × Int)} (h : FreshQ p ks F) {x : Int × Int} (hx : x ∈ F) : x ∈ allH p ∧ x ∉ ks := by
  obtain ⟨⟨s, hs, _, h2⟩, hn⟩ := (h x).1 hx
  exact ⟨List.mem_flatMap.2 ⟨s, hs, h2⟩, hn⟩
/-- What is needed: the variables, the arrays. -/
def needP (p : Prg) : List Int × List Int := itN (cntB p) nm1 nm2 p.body (p.lows.length + p.secrets.length + p.temps.toNat + p.arrays.length + 1)
theorem need_is {p : Prg} (hz : codeB p = 0) {H : List (Int × Int)} (h : InAll (cntB p) nm1 nm2 p.body H) (hf : FreshQ p H []) : riseL (hv 0 H) = (needP p).1 ∧ riseL (hv 1 H) = (needP p).2 :=
  need_one (cntB_mono p) (need_bounds hz) h (fresh_of hz hf)
end Go.Proofs.YtbnpoliogldohaaGreat
