/- Joined texts of this proof (EachLaw, ConcatIn), in build order. -/
import Derived.Test.YtmooecbdpfhnlaaGreatK17
import Derived.RangeFuncNested
import Derived.RangeFuncBound
import Derived.RangeFuncCalls
import Derived.RangeFuncLeaves
import Derived.Test.YtmooecbdpfhnlaaGreatK18
import Derived.Test.YtmooecbdpfhnlaaGreatK9
import Derived.Test.YtmooecbdpfhnlaaGreatK4
/- A range over a function whose iterator writes cells of its own: what its contract says, and the law. -/
namespace Go.Proofs.YtmooecbdpfhnlaaGreat
open Go.RowKit

/-- The blocks from lo up to hi stay as they lay. -/
def Stay (lo hi : Nat) (W W' : World) : Prop := ∀ k, lo ≤ k → k < hi → W'.heap[k]? = W.heap[k]?
theorem Stay.refl (lo hi : Nat) (W : World) : Stay lo hi W W := fun _ _ _ => rfl
theorem Stay.trans {lo hi : Nat} {A B C : World} (h : Stay lo hi A B) (k : Stay lo hi B C) : Stay lo hi A C := fun i h1 h2 => (k i h1 h2).trans (h i h1 h2)
theorem Stay.put {lo hi l : Nat} (W : World) (o : Obj) (h : l < lo) : Stay lo hi W (W.putObj l o) := fun _ _ _ => World.putObj_heap_other (by omega)
theorem Stay.of_below {lo hi : Nat} {W W' : World} (h : Below hi W W') : Stay lo hi W W' := fun k _ h2 => h.block k h2
theorem Span.put {lo hi l : Nat} (W : World) (o : Obj) (h1 : lo ≤ l) (h2 : l < hi) : Span lo hi W (W.putObj l o) := ⟨rfl, rfl, rfl, by simp, fun _ _ _ => World.putObj_heap_other (by omega)⟩
theorem Span.drew {lo hi : Nat} (W : World) : Span lo hi W W.drew := ⟨rfl, rfl, rfl, Nat.le_refl _, fun _ _ _ => rfl⟩

/-- The contract of an iterator that writes cells of its own: its blocks lie from the heap's size at its call up to m, the heap's size at its first round; a round that goes on leaves them as they lay; whoever calls it minds no turn of theirs. What holds of x at the round's start: Info. -/
def SeqOwns {α : Type} (P : Program) (n g : Nat) (lb : Array Value) (encs : α → Array Value) (Info : Nat → Nat → α → World → Prop) (S Sp : List α → Prop) (w : World) : Prop :=
  ∀ (l : Nat) (J Jx : Nat → List α → World → Prop) (W : World), Below w.heap.size w W →
    (∀ m s A B, J m s A → Span W.heap.size m A B → J m s B) → (∀ m s A B, Jx m s A → Span W.heap.size m A B → Jx m s B) →
    (∀ W', Below W.heap.size W W' → J W'.heap.size [] W') →
    (∀ m pre x W1, J m pre W1 → Info W.heap.size m x W1 → YieldAt Fence.wide (n - 1) P l (encs x) W1 fun e W' =>
      (e = .returned (.bool true) ∧ J m (pre ++ [x]) W' ∧ Stay W.heap.size m W1 W' ∧ W1.heap.size ≤ W'.heap.size) ∨ (e = .returned (.bool false) ∧ Jx m (pre ++ [x]) W')) →
    CallsIn Fence.wide n P g (#[.func (.yield l) #[] #[]] ++ lb) W fun e W' => (∃ v, e = .returned v) ∧ ((∃ m xs, S xs ∧ J m xs W') ∨ (∃ m pre, Sp pre ∧ Jx m pre W'))

/-- How a round's body may be left. -/
def ownPostM {α : Type} (b m : Nat) (I : Nat → List α → World → Prop) (Ix : Code → Nat → List α → World → Prop) (xs : List α) (W : World) : Exit → Act → World → Prop
  | .normal, _, W' => KeepsFrom b W W' ∧ Stay (b + 2) m W W' ∧ I m xs W'
  | .ret, _, W' => KeepsFrom b W W' ∧ Ix .ret m xs W'
  | .exit id, _, W' => KeepsFrom b W W' ∧ Ix (.exit id) m xs W'
  | .goto t, _, W' => KeepsFrom b W W' ∧ Ix (.goto t) m xs W'
  | .panic _, _, _ => False
  | .outgrown, _, _ => False

section
variable {n : Nat} {P : Program} {w : World}
end
end Go.Proofs.YtmooecbdpfhnlaaGreat
/- The contracts of the library's slices.Grow (onto nothing) and slices.Concat at Inputs, and of the program's inputsOf. -/
namespace Go.Proofs.YtmooecbdpfhnlaaGreat
open Go.RowKit

theorem ownI_nil (w : World) (B : Nat) : OwnI w B none 0 0 [] := ⟨World.ownsRow_nil _ _ _ _, by omega, fun z hz => by simp at hz⟩
theorem run_append_nothingI (w : World) (ty : TypeId) (v : Value) (B n : Nat) (xs : List Value) (hown : w.ownsRow B 41 2 v n xs) (c : Nat) : (Builtin.append_ #[27, 27] ty #[v, .slice none 0 c]).run Tryz.prog w = .ok v w := by
  obtain ⟨i0, hi, hz0, hz1, hz2⟩ := info_parts info_input
  rcases hown.2 with ⟨rfl, rfl⟩ | ⟨g, cap, cur, rfl, _, _, hnc, _⟩
  · simp [Builtin.append_, run_underlying Tryz.underlying27, sizeOf, typeInfo, hi, Builtin.lenOf, Builtin.firstCells]
  · simp [Builtin.append_, run_underlying Tryz.underlying27, sizeOf, typeInfo, hi, Builtin.lenOf, Builtin.firstCells, hnc, storeCells]
set_option maxRecDepth 100000 in
/-- 'append(out, xs...)' of Inputs: out a row of the call's own, xs whatever slice of them. -/
theorem wpList_concatI {ops : Array Oper} {rest : List Oper} {o : Oper} {ac : Act} {Q : Exit → Act → World → Prop} (w : World) (hgd : o.guard = none) (s x : Operand)
    (ho : o.op = .call { callee := .builtin .append, args := #[s, x], argTypes := #[27, 27] })
    (B : Nat) (a : Option Addr) (n c : Nat) (ts : List Tm) (hs : ac.eval s = .slice a n c) (hown : OwnI w B a n c ts)
    (a2 : Option Addr) (m c2 : Nat) (us : List Tm) (hx : ac.eval x = .slice a2 m c2) (hi2 : Terms w a2 m us) (hn : n + m ≤ 1048576) (hB : B ≤ w.heap.size)
    (h : ∀ a1 c1 w', OwnI w' B a1 (n + m) c1 (ts ++ us) → w.grownBy w' (Value.slice a n c).ownBlock → wpList Tryz.prog ops Q rest (ac.put o.dst (.slice a1 (n + m) c1)) w') : wpList Tryz.prog ops Q (o :: rest) ac w := by
  have hin : ∀ y ∈ ts ++ us, InTm y := fun y hy => by
    rcases List.mem_append.1 hy with hy | hy
    · exact hown.2.2 y hy
    · exact hi2.2.2.1 y hy
  cases a2 with
  | none =>
    have hm : m = 0 := by
      rcases Nat.eq_zero_or_pos m with h0 | h0
      · exact h0
      · obtain ⟨b, o', e, _⟩ := hi2.2.2.2 h0
        cases e
    subst hm
    have hys : us = [] := List.eq_nil_of_length_eq_zero hi2.1
    subst hys
    refine wpList_plain hgd fun K hK' => ?_
    have hrun := run_append_nothingI w o.type (.slice a n c) B n _ hown.1 c2
    unfold Oper.wp
    simp [execOp, ho, resolve, invoke, builtin, hs, hx, hrun, Result.andThen]
    exact hK' _ _ (by simpa using h a c w (by simpa using hown) (World.grownBy.refl _ _))
  | some ad =>
    obtain ⟨i0, hi, hz0, hz1, hz2⟩ := info_parts info_input
    have hl := hi2.1
    refine wpList_append_own w hgd s x 27 ho B 41 i0 (.agg #[.int .i64 0, .int .i64 0]) 2 16 Tryz.underlying27 hi hz0 hz1 hz2 rfl (by omega) (.slice a n c) n (flatV ts) hs hown.1
      ad m c2 (flatV us) hx (by rw [flatV_len, hl]) ?_ (flatV_one us) ?_ ?_ hB ?_
    · intro j u hj
      have hjl : j < (flatV us).length := (List.getElem?_eq_some_iff.1 hj).1
      rw [flatV_len] at hjl
      obtain ⟨b, off, e, _, hc⟩ := hi2.2.2.2 (by omega)
      injection e with e
      subst e
      exact terms_news hi2 j u hj
    · unfold maxLen; omega
    · omega
    · intro v' w' h1 h2 _
      have hf : ∃ a1 c1, v' = .slice a1 (n + m) c1 := by
        rcases h1.2 with ⟨e, h0⟩ | ⟨g', cap, cur, e, _⟩
        · exact ⟨none, 0, by rw [e, h0]⟩
        · exact ⟨_, _, e⟩
      obtain ⟨a1, c1, rfl⟩ := hf
      exact h a1 c1 w' ⟨by rw [flatV_append]; exact h1, hn, hin⟩ h2
/-- Of Inputs: an append into the call's own row keeps what is below. -/
theorem below_pushI {w v w' : World} {B : Nat} {a : Option Addr} {n c : Nat} {ts : List Tm} (hb : Below B w v) (hown : OwnI v B a n c ts) (hB : B ≤ v.heap.size) (hg : v.grownBy w' (Value.slice a n c).ownBlock) : Below B w w' :=
  hb.grown hg hB (fun k hk => (hown.block k hk).1)
set_option maxHeartbeats 800000 in
theorem grow_nilI (n : Nat) (w : World) (hn : n ≤ 1048576) :
    Calls Tryz.prog 172 #[.slice none 0 0, .int .i64 (n : Int)] w fun e w' => ∃ a c, e = .returned (.slice a 0 c) ∧ OwnI w' w.heap.size a 0 c [] ∧ Below w.heap.size w w' := by
  obtain ⟨i0, hi, hz0, hz1, hz2⟩ := info_parts info_input
  by_cases h0 : n = 0
  · subst h0
    clear hi hz0 hz1 hz2
    go_enter Tryz.func172, Tryz.ntmps172
    go_wp2
    go_ret
    exact ⟨_, _, rfl, ownI_nil _ _, Below.refl _ _⟩
  · have hpos : decide ((n : Int) > 0) = true := by simp; omega
    have hneg : decide ((n : Int) < 0) = false := by simp
    have HRUN : Hid (∀ ty, (Builtin.append_ #[27, 3] ty #[.slice none 0 0, .int .i64 (n : Int)]).run Tryz.prog w = .ok (.slice (some ⟨w.heap.size, 0, none⟩) n (grownCap w n 0 41)) (w.drew.alloc (.cells (Builtin.zeroCells (Value.agg #[.int .i64 0, .int .i64 0]).cells n ++ Builtin.zeroCells (Value.agg #[.int .i64 0, .int .i64 0]).cells (grownCap w n 0 41 - n)) 41))) := Lib.hid (fun ty => Go.Lib.run_append_nil_zeros w _ _ ty 41 i0 (.agg #[.int .i64 0, .int .i64 0]) .i64 .i64 Tryz.underlying27 under_int hi hz0 n (by omega) (by rw [hz1]; omega) (by omega) (by rw [hz2]; omega))
    have hge := grownCap_ge w n 0 41
    have hle := grownCap_le_maxLen w n 0 41 (by unfold maxLen; omega)
    have HSZ : Hid ((Builtin.zeroCells (Value.agg #[.int .i64 0, .int .i64 0]).cells n ++ Builtin.zeroCells (Value.agg #[.int .i64 0, .int .i64 0]).cells (grownCap w n 0 41 - n)).size = grownCap w n 0 41 * 2) := Lib.hid (by simp [Builtin.zeroCells, Value.cells]; omega)
    obtain ⟨cs, HCS⟩ : ∃ cs : Array Value, Hid (Builtin.zeroCells (Value.agg #[.int .i64 0, .int .i64 0]).cells n ++ Builtin.zeroCells (Value.agg #[.int .i64 0, .int .i64 0]).cells (grownCap w n 0 41 - n) = cs) := ⟨_, rfl⟩
    obtain ⟨cap, HCAP⟩ : ∃ cap, Hid (grownCap w n 0 41 = cap) := ⟨_, rfl⟩
    rw [HCS.out] at HRUN HSZ
    rw [HCAP.out] at HRUN HSZ hge hle
    clear hi hz0 hz1 hz2 HCS HCAP
    go_enter Tryz.func172, Tryz.ntmps172
    go_wp2_with (at_builtin; refine Go.Lib.wpList_append_run _ rfl _ _ 27 3 rfl (.slice none 0 0) (.int .i64 (n : Int)) rfl rfl _ _ (HRUN.out _) ?_)
    go_ret
    have hb : Below w.heap.size w (w.drew.alloc (.cells cs 41)) := (show Below w.heap.size w w.drew from ⟨rfl, rfl, rfl, Nat.le_refl _, fun _ _ => rfl⟩).alloc (Nat.le_refl _) _
    refine ⟨_, _, rfl, ⟨⟨rfl, .inr ⟨w.heap.size, cap, cs, rfl, Nat.le_refl _, ?_, by omega, hle, by rw [HSZ.out], by simp [flatV]⟩⟩, by omega, fun z hz => by simp at hz⟩, hb⟩
    exact World.alloc_heap_new w.drew _
/-- The first k, one behind the other. -/
def flatT (tss : List (List Tm)) : Nat → List Tm
  | 0 => []
  | k + 1 => flatT tss k ++ tsAt tss k
theorem flatT_mono (tss : List (List Tm)) {i j : Nat} (h : i ≤ j) : (flatT tss i).length ≤ (flatT tss j).length := by
  induction j with
  | zero => obtain rfl : i = 0 := by omega
            exact Nat.le_refl _
  | succ j ih =>
    rcases Nat.lt_or_ge i (j + 1) with h' | h'
    · have := ih (by omega); simp only [flatT, List.length_append]; omega
    · obtain rfl : i = j + 1 := by omega
      exact Nat.le_refl _
set_option maxRecDepth 20000 in
set_option maxHeartbeats 1600000 in
theorem concatI_any (a : Option Addr) (n c : Nat) (rs : List Sl) (tss : List (List Tm)) (w : World) (h : TermsSS w a n rs tss) (hlen : (flatT tss n).length ≤ 1000000) (hn : n ≤ 1000) :
    Calls Tryz.prog 141 #[.slice a n c] w (MadeI w (flatT tss n)) := by
  go_enter Tryz.func141, Tryz.ntmps141
  go_wp2
  go_loop [3, 11] (fun q i => ∃ k : Nat, k ≤ n ∧ i = .int .i64 (k : Int) ∧ q = .int .i64 (((flatT tss k).length : Nat) : Int)) (fun _ i => n - (intOf i).toNat)
  case atStart => exact ⟨0, Nat.zero_le _, rfl, rfl⟩
  case round =>
    obtain ⟨k, hk, rfl, rfl⟩ := hrel
    by_cases hlt : k < n
    · obtain ⟨b, o, a1, n1, c1, rfl, hb, hsl, hc, hI⟩ := h.at_ hlt
      have hm := flatT_mono tss (show k + 1 ≤ n by omega)
      have he : (flatT tss (k + 1)).length = (flatT tss k).length + n1 := by rw [flatT, List.length_append, hI.1]
      obtain ⟨L, HL⟩ : ∃ L : Nat, Hid ((flatT tss k).length = L) := ⟨_, rfl⟩
      rw [HL.out] at he ⊢
      have hb2 : L + n1 ≤ 1000000 := by omega
      have hneg : decide ((L : Int) + (n1 : Int) < 0) = false := by simp; omega
      have HE := Lib.hid he
      clear hm he hI
      go_wp2
      go_round
      case rel => exact ⟨k + 1, by omega, by go_num, by rw [HE.out]; go_num⟩
      case measure => simp [intOf]; omega
    · obtain rfl : n = k := by omega
      obtain ⟨L, HL⟩ : ∃ L : Nat, Hid ((flatT tss n).length = L) := ⟨_, rfl⟩
      rw [HL.out] at hlen ⊢
      go_wp2_with fail
      refine (grow_nilI L _ (by omega)).mono ?_
      rintro e w1 ⟨ga, gc, rfl, hown, hb1⟩
      go_wp2
      go_loopw [6, 27] (fun s i wr => ∃ (k m d : Nat) (sa : Option Addr), k ≤ n ∧ i = .int .i64 (k : Int) ∧ s = .slice sa m d ∧ OwnI wr w.heap.size sa m d (flatT tss k) ∧ Below w.heap.size w wr) (fun _ i _ => n - (intOf i).toNat)
      case atStart => exact ⟨0, 0, gc, ga, Nat.zero_le _, rfl, rfl, hown, hb1⟩
      case round =>
        clear hown hb1
        obtain ⟨k, m, d, sa, hk2, rfl, rfl, hown, hbel⟩ := hrel
        by_cases hlt : k < n
        · obtain ⟨b, o, a1, n1, c1, rfl, hb, hsl, hc, hI⟩ := (h.below hbel).at_ hlt
          have hm := flatT_mono tss (show k + 1 ≤ n by omega)
          have he : (flatT tss (k + 1)).length = (flatT tss k).length + n1 := by rw [flatT, List.length_append, hI.1]
          have hml := hown.len
          have hsum : m + n1 ≤ 1048576 := by have := HL.out; omega
          have hB := hbel.size
          have HI := Lib.hid hI
          have HO := Lib.hid hown
          clear hm he hml
          go_wp2_with (at_builtin; refine wpList_concatI _ rfl _ _ rfl w.heap.size _ _ _ (flatT tss k) rfl HO.out _ _ _ (tsAt tss k) rfl HI.out hsum hB ?_)
          intro a8 c8 w8 hown8 hg8
          have hb8 := below_pushI hbel HO.out hB hg8
          have HO8 : Hid (OwnI w8 w.heap.size a8 (m + n1) c8 (flatT tss (k + 1))) := Lib.hid hown8
          clear hown8 hg8 hown HO HI hI hbel hB
          go_wp2
          go_roundw
          case rel => exact ⟨k + 1, m + n1, c8, a8, by omega, by go_num, rfl, HO8.out, hb8⟩
          case measure => simp [intOf]; omega
        · obtain rfl : n = k := by omega
          go_wp2
          go_ret
          exact ⟨_, _, _, rfl, hown, hbel⟩
theorem termsSS_two {w : World} {b : Nat} {t : TypeId} {x y : Sl} {ts us : List Tm} (hB : Blk w b t [slV x, slV y]) (h1 : Terms w x.1 x.2.1 ts) (h2 : Terms w y.1 y.2.1 us) : TermsSS w (some ⟨b, 0, none⟩) 2 [x, y] [ts, us] := by
  refine ⟨rfl, rfl, fun _ => ⟨b, 0, rfl, hB.lt, fun i hi => ?_⟩, fun i hi => ?_⟩
  · match i, hi with
    | 0, _ => exact hB.cell (j := 0) rfl
    | 1, _ => exact hB.cell (j := 1) rfl
  · match i, hi with
    | 0, _ => exact h1
    | 1, _ => exact h2
theorem flatT_two (ts us : List Tm) : flatT [ts, us] 2 = ts ++ us := rfl
set_option maxHeartbeats 800000 in
theorem inputsOf_any (r : PRow) (p : Prg) (w : World) (h : ProgAt w r p) (hl : p.lows.length + p.secrets.length ≤ 1000) :
    Calls Tryz.prog 102 #[progV r] w (MadeI w (p.lows ++ p.secrets)) := by
  obtain ⟨wd, ⟨a1, n1, c1⟩, ⟨a2, n2, c2⟩, tp, ⟨a3, n3, c3⟩, ⟨a4, n4, c4⟩, rows⟩ := r
  show Calls Tryz.prog 102 #[.agg #[.int .i64 wd, .slice a1 n1 c1, .slice a2 n2 c2, .int .i64 tp, .slice a3 n3 c3, .slice a4 n4 c4]] w _
  have h1 := Lib.hid h.lows
  have h2 := Lib.hid h.secrets
  simp only [] at h1 h2
  have HL : Hid ((flatT [p.lows, p.secrets] 2).length ≤ 1000000) := Lib.hid (by rw [flatT_two, List.length_append]; omega)
  clear h hl
  obtain ⟨wa, HW⟩ : ∃ wa, Hid (wa = (w.alloc (.cells #[.int .i64 wd, .slice a1 n1 c1, .slice a2 n2 c2, .int .i64 tp, .slice a3 n3 c3, .slice a4 n4 c4] 31)).alloc (.cells #[.slice a1 n1 c1, .slice a2 n2 c2] 27)) := ⟨_, rfl⟩
  have HB : Below w.heap.size w wa := by rw [HW.out]; exact ((Below.refl _ _).alloc (Nat.le_refl _) _).alloc (by simp) _
  have X : Blk wa (w.heap.size + 1) 27 [slV (a1, n1, c1), slV (a2, n2, c2)] := by
    rw [HW.out]
    simpa [slV] using Blk.new (w.alloc (.cells #[.int .i64 wd, .slice a1 n1 c1, .slice a2 n2 c2, .int .i64 tp, .slice a3 n3 c3, .slice a4 n4 c4] 31)) 27 [slV (a1, n1, c1), slV (a2, n2, c2)]
  have HT := Lib.hid (termsSS_two X (h1.out.below (Nat.le_refl _) HB) (h2.out.below (Nat.le_refl _) HB))
  clear X h1 h2
  go_enter Tryz.func102, Tryz.ntmps102
  go_wp2_with fail
  rw [← HW.out]
  refine (concatI_any _ 2 _ _ _ _ HT.out HL.out (by omega)).mono ?_
  rintro e w1 ⟨sa, sn, sc, rfl, ho, hb1⟩
  rw [flatT_two] at ho
  have HB1 := HB.trans (hb1.mono HB.size)
  have HO := Lib.hid (ho.base HB.size)
  clear ho hb1 HT HL HW
  go_wp2
  go_ret
  exact ⟨_, _, _, rfl, HO.out, HB1⟩
end Go.Proofs.YtmooecbdpfhnlaaGreat
