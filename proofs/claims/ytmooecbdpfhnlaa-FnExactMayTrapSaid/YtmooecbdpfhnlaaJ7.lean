/- Joined texts of this proof (ProgLaw, Tree, AppTree), in build order. -/
import Derived.Test.YtmooecbdpfhnlaaJ6
import Derived.Deep.RegionWith
import Derived.Test.YtmooecbdpfhnlaaJ2
import Derived.Test.YtmooecbdpfhnlaaJ3
/- A law's argument that is a program: what it is, as the statement's own reading gives it; what szProg answers for it. -/
namespace Go.Proofs.Ytmooecbdpfhnlaa
open Go.RowKit Go.ChangeShapes Go.WideShapes

/-- An argument that is a program: its slices read where they are not too long. -/
structure ArgProg (w : World) (r : PRow) : Prop where
  inW : In64 r.width
  inT : In64 r.temps
  lows : ArgTerms w r.lows.1 r.lows.2.1
  secrets : ArgTerms w r.secrets.1 r.secrets.2.1
  arrays : ArgInts w r.arrays.1 r.arrays.2.1
  body : ArgStmts w r.body.1 r.body.2.1
theorem ArgTerms.below {w w' : World} {a : Option Addr} {n : Nat} (h : ArgTerms w a n) (hb : Below w.heap.size w w') : ArgTerms w' a n :=
  ⟨h.1, fun hn => by obtain ⟨ts, ht⟩ := h.2 hn; exact ⟨ts, ht.below (Nat.le_refl _) hb⟩⟩
theorem ArgInts.below {w w' : World} {a : Option Addr} {n : Nat} (h : ArgInts w a n) (hb : Below w.heap.size w w') : ArgInts w' a n :=
  ⟨h.1, fun hn => by obtain ⟨ts, ht⟩ := h.2 hn; exact ⟨ts, ht.below hb⟩⟩
theorem ArgStmts.below {w w' : World} {a : Option Addr} {n : Nat} (h : ArgStmts w a n) (hb : Below w.heap.size w w') : ArgStmts w' a n :=
  ⟨h.1, fun hn => by obtain ⟨ts, ht⟩ := h.2 hn; exact ⟨ts, ht.below hb⟩⟩
theorem ArgProg.below {w w' : World} {r : PRow} (h : ArgProg w r) (hb : Below w.heap.size w w') : ArgProg w' r :=
  ⟨h.inW, h.inT, h.lows.below hb, h.secrets.below hb, h.arrays.below hb, h.body.below hb⟩
theorem array6 {α : Type} {cs : Array α} (h : cs.size = 6) : ∃ c0 c1 c2 c3 c4 c5, cs = #[c0, c1, c2, c3, c4, c5] := by
  obtain ⟨l⟩ := cs
  match l, h with
  | [c0, c1, c2, c3, c4, c5], _ => exact ⟨c0, c1, c2, c3, c4, c5, rfl⟩
theorem argInputs_cell {H : Type} {enc : TypeId × Value → H} {w : World} {base : Nat} {spare : Nat → Bool} {held : Bool} {fuel : Nat} {V : Value} {x : DataW H × List MemPlace} (h : DataW.trod enc Try.prog w base spare held fuel 58 [V] = some x) : ∃ a len cap, V = .slice a len cap ∧ ArgTerms w a len :=
  argPairs_cell Try.underlying58 Try.underlying157 (by kernel_rfl) (by kernel_rfl) rfl rfl h
set_option maxRecDepth 100000 in
theorem argProg_of {H : Type} {enc : TypeId × Value → H} {w : World} {base : Nat} {spare : Nat → Bool} {held : Bool} {rc : Reach} {b0 : Nat} {v : Value} {d : DataW H} {p : List MemPlace}
    (hv : Value.okWide Try.prog w rc b0 61 v) (h : DataW.Trod enc Try.prog w base spare held 61 v d p) : ∃ r : PRow, v = progV r ∧ ArgProg w r := by
  obtain ⟨cs, rfl, hsz⟩ := okWide_struct Try.underlying61 hv
  obtain ⟨v0, v1, v2, v3, v4, v5, rfl⟩ := array6 (hsz.trans (by kernel_rfl))
  obtain ⟨fuel, hf⟩ := h
  obtain ⟨_, n, hn⟩ := trod_cells Try.underlying61 (by kernel_rfl) (by kernel_rfl) hf
  obtain ⟨u0, y0, c0, d0⟩ := hn 0 _ rfl
  obtain ⟨u1, y1, c1, d1⟩ := hn 1 _ rfl
  obtain ⟨u2, y2, c2, d2⟩ := hn 2 _ rfl
  obtain ⟨u3, y3, c3, d3⟩ := hn 3 _ rfl
  obtain ⟨u4, y4, c4, d4⟩ := hn 4 _ rfl
  obtain ⟨u5, y5, c5, d5⟩ := hn 5 _ rfl
  simp [Value.cells] at c0 c1 c2 c3 c4 c5
  subst c0 c1 c2 c3 c4 c5
  obtain ⟨n0, e0, _, w0⟩ := DataW.trod_int Try.underlying2 d0
  obtain ⟨n3, e3, _, w3⟩ := DataW.trod_int Try.underlying2 d3
  obtain ⟨a1, l1, k1, rfl, t1⟩ := argInputs_cell d1
  obtain ⟨a2, l2, k2, rfl, t2⟩ := argInputs_cell d2
  obtain ⟨a4, l4, k4, rfl, t4⟩ := argInts_cell Try.underlying25 (by kernel_rfl) d4
  obtain ⟨a5, l5, k5, rfl, t5⟩ := argStmts_cell d5
  injection e0 with e0
  injection e3 with e3
  subst e0 e3
  exact ⟨⟨n0, (a1, l1, k1), (a2, l2, k2), n3, (a4, l4, k4), (a5, l5, k5), []⟩, rfl, ⟨in64_of w0, in64_of w3, t1, t2, t4, t5⟩⟩

/-- What szProg leaves: -1, or a number from 0 up, and then the argument reads as a program. -/
def SzProg (w : World) (left : Nat) (r : PRow) (e : Ending) (w' : World) : Prop :=
  Below w.heap.size w w' ∧ (e = .returned (.int .i64 (-1)) ∨ ∃ v : Nat, v ≤ left ∧ e = .returned (.int .i64 (v : Int)) ∧ ∃ rows p, ProgAt w { r with rows := rows } p)
set_option maxHeartbeats 1600000 in
theorem szProg_any (r : PRow) (left : Nat) (w : World) (h : ArgProg w r) (hl : left ≤ 1048576) :
    Calls Try.prog 31 #[progV r, .int .i64 (left : Int)] w (SzProg w left r) := by
  obtain ⟨wd, ⟨a1, n1, c1⟩, ⟨a2, n2, c2⟩, tp, ⟨a3, n3, c3⟩, ⟨a4, n4, c4⟩, rows0⟩ := r
  obtain ⟨i1, i2, h1, h2, h3, h4⟩ := h
  simp only [] at i1 i2 h1 h2 h3 h4
  have HB : Below w.heap.size w (w.alloc (.cells #[.int .i64 wd, .slice a1 n1 c1, .slice a2 n2 c2, .int .i64 tp, .slice a3 n3 c3, .slice a4 n4 c4] 61)) := (Below.refl _ _).alloc (Nat.le_refl _) _
  show Calls Try.prog 31 #[.agg #[.int .i64 wd, .slice a1 n1 c1, .slice a2 n2 c2, .int .i64 tp, .slice a3 n3 c3, .slice a4 n4 c4], .int .i64 (left : Int)] w _
  go_enter Try.func31, Try.ntmps31
  go_wp2_with fail
  by_cases e1 : n1 ≤ left
  case neg =>
    refine (szInputS_over _ _ _ _ _ (by omega) h1.1).mono ?_
    rintro e w1 ⟨rfl, rfl⟩
    go_wp2
    go_ret
    exact ⟨HB, .inl rfl⟩
  refine (szInputS_fits _ _ _ _ _ e1 hl).mono ?_
  rintro e w1 ⟨rfl, rfl⟩
  obtain ⟨L1, HL1⟩ : ∃ L1 : Nat, Hid (left - n1 = L1) := ⟨_, rfl⟩
  rw [HL1.out]
  have hl1 : L1 ≤ 1048576 := by have := HL1.out; omega
  go_wp2_with fail
  by_cases e2 : n2 ≤ L1
  case neg =>
    refine (szInputS_over _ _ _ _ _ (by omega) h2.1).mono ?_
    rintro e w1 ⟨rfl, rfl⟩
    go_wp2
    go_ret
    exact ⟨HB, .inl rfl⟩
  refine (szInputS_fits _ _ _ _ _ e2 hl1).mono ?_
  rintro e w1 ⟨rfl, rfl⟩
  obtain ⟨L2, HL2⟩ : ∃ L2 : Nat, Hid (L1 - n2 = L2) := ⟨_, rfl⟩
  rw [HL2.out]
  have hl2 : L2 ≤ 1048576 := by have := HL2.out; omega
  go_wp2_with fail
  by_cases e3 : n3 ≤ L2
  case neg =>
    refine (szInt64S_over _ _ _ _ _ (by omega) h3.1).mono ?_
    rintro e w1 ⟨rfl, rfl⟩
    go_wp2
    go_ret
    exact ⟨HB, .inl rfl⟩
  refine (szInt64S_fits _ _ _ _ _ e3 hl2).mono ?_
  rintro e w1 ⟨rfl, rfl⟩
  obtain ⟨L3, HL3⟩ : ∃ L3 : Nat, Hid (L2 - n3 = L3) := ⟨_, rfl⟩
  rw [HL3.out]
  have hl3 : L3 ≤ 1048576 := by have := HL3.out; omega
  go_wp2_with fail
  by_cases e4 : n4 ≤ L3
  case neg =>
    refine (szStmtS_over _ _ _ _ _ (by omega) h4.1).mono ?_
    rintro e w1 ⟨rfl, rfl⟩
    go_wp2
    go_ret
    exact ⟨HB, .inl rfl⟩
  obtain ⟨rs, hrs⟩ := h4.2 (by omega)
  refine (szStmtS_rows _ _ _ _ _ _ (hrs.below HB) e4 hl3).mono ?_
  rintro e w1 ⟨rfl, hb1⟩
  have hbel := HB.trans (hb1.mono HB.size)
  by_cases e5 : n4 + sumTo rs n4 ≤ L3
  · rw [szI_fits e5]
    obtain ⟨L4, HL4⟩ : ∃ L4 : Nat, Hid (L3 - (n4 + sumTo rs n4) = L4) := ⟨_, rfl⟩
    rw [HL4.out]
    have hl4 : L4 ≤ 1048576 := by have := HL4.out; omega
    obtain ⟨tl, Tl⟩ := h1.2 (by omega)
    obtain ⟨tu, Tu⟩ := h2.2 (by omega)
    obtain ⟨tz, Tz⟩ := h3.2 (by omega)
    obtain ⟨ts, Ts⟩ := hrs.reads (by omega)
    have HP := Lib.hid (show ProgAt w ⟨wd, (a1, n1, c1), (a2, n2, c2), tp, (a3, n3, c3), (a4, n4, c4), rs⟩ ⟨wd, tl, tu, tp, tz, ts⟩ from ⟨rfl, rfl, i1, i2, Tl, Tu, Tz, Ts⟩)
    clear Tl Tu Tz Ts hrs h1 h2 h3 h4
    go_wp2
    go_ret
    exact ⟨hbel, .inr ⟨L4, by have q1 := HL1.out; have q2 := HL2.out; have q3 := HL3.out; have q4 := HL4.out; omega, rfl, rs, _, HP.out⟩⟩
  · rw [szI_over (by omega)]
    clear hrs h1 h2 h3 h4
    go_wp2
    go_ret
    exact ⟨hbel, .inl rfl⟩
end Go.Proofs.Ytmooecbdpfhnlaa
/- Trees in memory (the program's interface values), and the contracts of their methods. -/
namespace Go.Proofs.Ytmooecbdpfhnlaa
open Go.RowKit

instance : Inhabited Tr := ⟨.node 0 0 []⟩

/-- The slice '.slice a n c' of trees reads as the values vs; its block is one of F. -/
def RowV (w : World) (F : Nat → Prop) (a : Option Addr) (n : Nat) (vs : List Value) : Prop :=
  vs.length = n ∧ (0 < n → ∃ b o cur fz, a = some ⟨b, o, none⟩ ∧ F b ∧ w.heap[b]? = some (.cells cur 143 fz) ∧ ∀ i, i < n → cur[o + i]? = some (vs.getD i .nilIface))

/-- The value is this tree; the blocks of its slices are some of F. -/
inductive IsTree (w : World) (F : Nat → Prop) : Value → Tr → Prop
  | num (n : Int) : IsTree w F (.iface 196 (.agg #[.int .i64 n])) (.node 0 n [])
  | var (n : Int) : IsTree w F (.iface 198 (.agg #[.int .i64 n])) (.node 1 n [])
  | cell (n : Int) (v : Value) (T : Tr) : IsTree w F v T → IsTree w F (.iface 178 (.agg #[.int .i64 n, v])) (.node 2 n [T])
  | op (k : Int) (a : Option Addr) (m c : Nat) (vs : List Value) (Ts : List Tr) : 3 ≤ k → k ≤ 17 → m ≤ 3 → Ts.length = m → RowV w F a m vs → (∀ i, i < m → IsTree w F (vs.getD i .nilIface) (Ts.getD i default)) →
      IsTree w F (.iface 182 (.agg #[.int .i64 k, .slice a m c])) (.node k 0 Ts)

/-- In w' the slices of trees of w in F lie as they did, and are in F'. -/
def Keeps (w : World) (F : Nat → Prop) (w' : World) (F' : Nat → Prop) : Prop := ∀ b cur fz, F b → w.heap[b]? = some (.cells cur 143 fz) → w'.heap[b]? = w.heap[b]? ∧ F' b
theorem RowV.keep {w w' : World} {F F' : Nat → Prop} {a : Option Addr} {n : Nat} {vs : List Value} (h : RowV w F a n vs) (hk : Keeps w F w' F') : RowV w' F' a n vs := by
  refine ⟨h.1, fun hp => ?_⟩
  obtain ⟨b, o, cur, fz, ha, hF, hh, hc⟩ := h.2 hp
  have := hk b cur fz hF hh
  exact ⟨b, o, cur, fz, ha, this.2, this.1.trans hh, hc⟩
theorem IsTree.keep {w w' : World} {F F' : Nat → Prop} {v : Value} {T : Tr} (h : IsTree w F v T) (hk : Keeps w F w' F') : IsTree w' F' v T := by
  induction h with
  | num n => exact .num n
  | var n => exact .var n
  | cell n v T _ ih => exact .cell n v T ih
  | op k a m c vs Ts h1 h2 h3 h4 h5 _ ih => exact .op k a m c vs Ts h1 h2 h3 h4 (h5.keep hk) ih
theorem RowV.at_ {w : World} {F : Nat → Prop} {a : Option Addr} {n : Nat} {vs : List Value} (h : RowV w F a n vs) {k : Nat} (hk : k < n) :
    ∃ b o, a = some ⟨b, o, none⟩ ∧ b < w.heap.size ∧ w.cell? ⟨b, o + k, none⟩ = some (vs.getD k .nilIface) := by
  obtain ⟨b, o, cur, fz, ha, hF, hh, hc⟩ := h.2 (by omega)
  refine ⟨b, o, ha, (Array.getElem?_eq_some_iff.1 hh).1, ?_⟩
  simp [World.cell?, hh, hc k hk]


/-! ### Which method it is -/
theorem m_num_under (x : Value) (w : World) : Sem.run Try.prog (method 321 196 (.agg #[x]) "loop.example/g00697/impl.under") w = .ok (188, .agg #[x]) w := by kernel_rfl
theorem m_var_under (x : Value) (w : World) : Sem.run Try.prog (method 321 198 (.agg #[x]) "loop.example/g00697/impl.under") w = .ok (190, .agg #[x]) w := by kernel_rfl
theorem m_cell_under (x y : Value) (w : World) : Sem.run Try.prog (method 321 178 (.agg #[x, y]) "loop.example/g00697/impl.under") w = .ok (184, .agg #[x, y]) w := by kernel_rfl
theorem m_op_under (x y : Value) (w : World) : Sem.run Try.prog (method 321 182 (.agg #[x, y]) "loop.example/g00697/impl.under") w = .ok (186, .agg #[x, y]) w := by kernel_rfl
/-! ### The methods -/
theorem num_under (n : Int) (w : World) : Calls Try.prog 188 #[.agg #[.int .i64 n]] w fun e w' => e = .returned (.slice none 0 0) ∧ Below w.heap.size w w' := by
  go_enter Try.func188, Try.ntmps188
  go_wp2
  go_ret
  exact ⟨rfl, (Below.refl _ _).alloc (Nat.le_refl _) _⟩
theorem var_under (n : Int) (w : World) : Calls Try.prog 190 #[.agg #[.int .i64 n]] w fun e w' => e = .returned (.slice none 0 0) ∧ Below w.heap.size w w' := by
  go_enter Try.func190, Try.ntmps190
  go_wp2
  go_ret
  exact ⟨rfl, (Below.refl _ _).alloc (Nat.le_refl _) _⟩
theorem op_under (k : Int) (a : Option Addr) (m c : Nat) (w : World) : Calls Try.prog 186 #[.agg #[.int .i64 k, .slice a m c]] w fun e w' => e = .returned (.slice a m c) ∧ Below w.heap.size w w' := by
  go_enter Try.func186, Try.ntmps186
  go_wp2
  go_ret
  exact ⟨rfl, (Below.refl _ _).alloc (Nat.le_refl _) _⟩
theorem cell_under (n : Int) (u : TypeId) (x : Value) (w : World) : Calls Try.prog 184 #[.agg #[.int .i64 n, .iface u x]] w fun e w' => ∃ g, e = .returned (.slice (some ⟨g, 0, none⟩) 1 1) ∧ w.heap.size ≤ g ∧ w'.heap[g]? = some (.cells #[.iface u x] 143 (0, 0)) ∧ Below w.heap.size w w' := by
  go_enter Try.func184, Try.ntmps184
  go_wp2
  go_ret
  refine ⟨w.heap.size + 1, rfl, by omega, ?_, ((Below.refl _ _).alloc (Nat.le_refl _) _).alloc (by simp) _⟩
  have := heap_alloc_new (w.alloc (.cells #[.int .i64 n, .iface u x] 178)) (.cells #[.iface u x] 143)
  simpa using this
end Go.Proofs.Ytmooecbdpfhnlaa
/- The contract of the program's appendTree: the Terms of a tree, in order, behind what was there. (Four walks of one text, one for each kind of tree.) -/
namespace Go.Proofs.Ytmooecbdpfhnlaa
open Go.RowKit

theorem IsTree.iface {w : World} {F : Nat → Prop} {v : Value} {T : Tr} (h : IsTree w F v T) : ∃ u x, v = .iface u x := by cases h <;> exact ⟨_, _, rfl⟩
theorem flats_take_succ (kids : List Tr) (i : Nat) (h : i < kids.length) : Tr.flats (kids.take (i + 1)) = Tr.flats (kids.take i) ++ (kids.getD i default).flat := by
  rw [List.take_succ_eq_append_getElem h, flats_append, flats_one, List.getD_eq_getElem?_getD, List.getElem?_eq_getElem h]; rfl
theorem flats_take_le (kids : List Tr) (i : Nat) (h : i < kids.length) : (Tr.flats (kids.take i)).length + (kids.getD i default).flat.length ≤ (Tr.flats kids).length := by
  have e : Tr.flats kids = Tr.flats (kids.take (i + 1)) ++ Tr.flats (kids.drop (i + 1)) := by rw [← flats_append, List.take_append_drop]
  rw [e, flats_take_succ kids i h, List.length_append, List.length_append]; omega
theorem oks_getD {kids : List Tr} (h : Tr.oks kids) {i : Nat} (hi : i < kids.length) : (kids.getD i default).okT := by
  rw [List.getD_eq_getElem?_getD, List.getElem?_eq_getElem hi]; exact (oks_iff kids).1 h _ (List.getElem_mem hi)

theorem keeps_below {w w' : World} {F : Nat → Prop} (h : Below w.heap.size w w') : Keeps w F w' F := fun b _ _ hF hh => ⟨h.block b (Array.getElem?_eq_some_iff.1 hh).1, hF⟩
theorem row_one {w : World} {g : Nat} {v : Value} (h : w.heap[g]? = some (.cells #[v] 143 (0, 0))) : RowV w (fun _ => True) (some ⟨g, 0, none⟩) 1 [v] := by
  refine ⟨rfl, fun _ => ⟨g, 0, _, _, rfl, trivial, h, fun i hi => ?_⟩⟩
  have : i = 0 := by omega
  subst this
  rfl

/-- What appendTree leaves. -/
def AppT (w : World) (B : Nat) (a : Option Addr) (n c : Nat) (ts : List Tm) (T : Tr) (e : Ending) (w' : World) : Prop :=
  ∃ a' n' c', e = .returned (.slice a' n' c') ∧ OwnT w' B a' n' c' (ts ++ T.flat) ∧ GrowsTo w (.slice a n c) w' (.slice a' n' c')
end Go.Proofs.Ytmooecbdpfhnlaa
