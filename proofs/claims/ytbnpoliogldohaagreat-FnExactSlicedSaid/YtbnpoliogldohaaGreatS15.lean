/- Joined texts of this proof (Tree, AppTree), in build order. -/
import Derived.Test.YtbnpoliogldohaaGreatS2
import Derived.Test.YtbnpoliogldohaaGreatS3
/- Trees in memory (the program's interface values), and the contracts of their methods. -/
namespace Go.Proofs.YtbnpoliogldohaaGreat
open Go.RowKit

instance : Inhabited Tr := ⟨.node 0 0 []⟩

/-- The slice '.slice a n c' of trees reads as the values vs; its block is one of F. -/
def RowV (w : World) (F : Nat → Prop) (a : Option Addr) (n : Nat) (vs : List Value) : Prop :=
  vs.length = n ∧ (0 < n → ∃ b o cur fz, a = some ⟨b, o, none⟩ ∧ F b ∧ w.heap[b]? = some (.cells cur 202 fz) ∧ ∀ i, i < n → cur[o + i]? = some (vs.getD i .nilIface))

/-- The value is this tree; the blocks of its slices are some of F. -/
inductive IsTree (w : World) (F : Nat → Prop) : Value → Tr → Prop
  | num (n : Int) : IsTree w F (.iface 242 (.agg #[.int .i64 n])) (.node 0 n [])
  | var (n : Int) : IsTree w F (.iface 269 (.agg #[.int .i64 n])) (.node 1 n [])
  | cell (n : Int) (v : Value) (T : Tr) : IsTree w F v T → IsTree w F (.iface 271 (.agg #[.int .i64 n, v])) (.node 2 n [T])
  | op (k : Int) (a : Option Addr) (m c : Nat) (vs : List Value) (Ts : List Tr) : 3 ≤ k → k ≤ 17 → m ≤ 3 → Ts.length = m → RowV w F a m vs → (∀ i, i < m → IsTree w F (vs.getD i .nilIface) (Ts.getD i default)) →
      IsTree w F (.iface 273 (.agg #[.int .i64 k, .slice a m c])) (.node k 0 Ts)

/-- In w' the slices of trees of w in F lie as they did, and are in F'. -/
def Keeps (w : World) (F : Nat → Prop) (w' : World) (F' : Nat → Prop) : Prop := ∀ b cur fz, F b → w.heap[b]? = some (.cells cur 202 fz) → w'.heap[b]? = w.heap[b]? ∧ F' b
theorem RowV.keep {w w' : World} {F F' : Nat → Prop} {a : Option Addr} {n : Nat} {vs : List Value} (h : RowV w F a n vs) (hk : Keeps w F w' F') : RowV w' F' a n vs := by
  refine ⟨h.1, fun hp => ?_⟩
  obtain ⟨b, o, cur, fz, ha, hF, hh, hc⟩ := h.2 hp
  have := hk b cur fz hF hh
  exact ⟨b, o, cur, fz, ha, this.2, this.1.trans hh, hc⟩
theorem IsTree.keep {w w' : World} {F F' : Nat → Prop} {v : Value} {T : Tr} (h : IsTree w F v T) (hk : Keeps w F w' F') : IsTree w' F' v T := by
  induction h with
  | num n => exact .num n
  | var n => exact .var n
  | cell n v T _ ih => exact .cell n v T ih
  | op k a m c vs Ts h1 h2 h3 h4 h5 _ ih => exact .op k a m c vs Ts h1 h2 h3 h4 (h5.keep hk) ih
theorem RowV.at_ {w : World} {F : Nat → Prop} {a : Option Addr} {n : Nat} {vs : List Value} (h : RowV w F a n vs) {k : Nat} (hk : k < n) :
    ∃ b o, a = some ⟨b, o, none⟩ ∧ b < w.heap.size ∧ w.cell? ⟨b, o + k, none⟩ = some (vs.getD k .nilIface) := by
  obtain ⟨b, o, cur, fz, ha, hF, hh, hc⟩ := h.2 (by omega)
  refine ⟨b, o, ha, (Array.getElem?_eq_some_iff.1 hh).1, ?_⟩
  simp [World.cell?, hh, hc k hk]


/-! ### Which method it is -/
theorem m_num_under (x : Value) (w : World) : Sem.run Tryz.prog (method 421 242 (.agg #[x]) "loop.example/g00697/impl.under") w = .ok (283, .agg #[x]) w := by kernel_rfl
theorem m_var_under (x : Value) (w : World) : Sem.run Tryz.prog (method 421 269 (.agg #[x]) "loop.example/g00697/impl.under") w = .ok (285, .agg #[x]) w := by kernel_rfl
theorem m_cell_under (x y : Value) (w : World) : Sem.run Tryz.prog (method 421 271 (.agg #[x, y]) "loop.example/g00697/impl.under") w = .ok (287, .agg #[x, y]) w := by kernel_rfl
theorem m_op_under (x y : Value) (w : World) : Sem.run Tryz.prog (method 421 273 (.agg #[x, y]) "loop.example/g00697/impl.under") w = .ok (289, .agg #[x, y]) w := by kernel_rfl
/-! ### The methods -/
theorem num_under (n : Int) (w : World) : Calls Tryz.prog 283 #[.agg #[.int .i64 n]] w fun e w' => e = .returned (.slice none 0 0) ∧ Below w.heap.size w w' := by
  go_enter Tryz.func283, Tryz.ntmps283
  go_wp2
  go_ret
  exact ⟨rfl, (Below.refl _ _).alloc (Nat.le_refl _) _⟩
theorem var_under (n : Int) (w : World) : Calls Tryz.prog 285 #[.agg #[.int .i64 n]] w fun e w' => e = .returned (.slice none 0 0) ∧ Below w.heap.size w w' := by
  go_enter Tryz.func285, Tryz.ntmps285
  go_wp2
  go_ret
  exact ⟨rfl, (Below.refl _ _).alloc (Nat.le_refl _) _⟩
theorem op_under (k : Int) (a : Option Addr) (m c : Nat) (w : World) : Calls Tryz.prog 289 #[.agg #[.int .i64 k, .slice a m c]] w fun e w' => e = .returned (.slice a m c) ∧ Below w.heap.size w w' := by
  go_enter Tryz.func289, Tryz.ntmps289
  go_wp2
  go_ret
  exact ⟨rfl, (Below.refl _ _).alloc (Nat.le_refl _) _⟩
theorem cell_under (n : Int) (u : TypeId) (x : Value) (w : World) : Calls Tryz.prog 287 #[.agg #[.int .i64 n, .iface u x]] w fun e w' => ∃ g, e = .returned (.slice (some ⟨g, 0, none⟩) 1 1) ∧ w.heap.size ≤ g ∧ w'.heap[g]? = some (.cells #[.iface u x] 202 (0, 0)) ∧ Below w.heap.size w w' := by
  go_enter Tryz.func287, Tryz.ntmps287
  go_wp2
  go_ret
  refine ⟨w.heap.size + 1, rfl, by omega, ?_, ((Below.refl _ _).alloc (Nat.le_refl _) _).alloc (by simp) _⟩
  have := heap_alloc_new (w.alloc (.cells #[.int .i64 n, .iface u x] 271)) (.cells #[.iface u x] 202)
  simpa using this
end Go.Proofs.YtbnpoliogldohaaGreat
/- The contract of the program's appendTree: the Terms of a tree, in order, behind what was there. (Four walks of one text, one for each kind of tree.) -/
namespace Go.Proofs.YtbnpoliogldohaaGreat
open Go.RowKit

theorem IsTree.iface {w : World} {F : Nat → Prop} {v : Value} {T : Tr} (h : IsTree w F v T) : ∃ u x, v = .iface u x := by cases h <;> exact ⟨_, _, rfl⟩
theorem okT_in {op n : Int} {kids : List Tr} (h : (Tr.node op n kids).okT) : InTm (op, n) := by
  simp only [Tr.okT] at h
  obtain ⟨h1, h2, h3, _⟩ := (tOkB_iff _).1 h.1
  have hr : 0 ≤ op ∧ op ≤ 17 := by
    rcases Int.lt_or_le op 0 with h' | h'
    · have := (takesI_neg op).2 (.inl h'); simp only [] at h1; omega
    · rcases Int.lt_or_le 17 op with h'' | h''
      · have := (takesI_neg op).2 (.inr h''); simp only [] at h1; omega
      · exact ⟨h', h''⟩
  simp only [] at h2 h3
  exact ⟨⟨by simp only []; omega, by simp only []; omega⟩, ⟨by simp only []; omega, by simp only []; omega⟩⟩
theorem flats_take_succ (kids : List Tr) (i : Nat) (h : i < kids.length) : Tr.flats (kids.take (i + 1)) = Tr.flats (kids.take i) ++ (kids.getD i default).flat := by
  rw [List.take_succ_eq_append_getElem h, flats_append, flats_one, List.getD_eq_getElem?_getD, List.getElem?_eq_getElem h]; rfl
theorem flats_take_le (kids : List Tr) (i : Nat) (h : i < kids.length) : (Tr.flats (kids.take i)).length + (kids.getD i default).flat.length ≤ (Tr.flats kids).length := by
  have e : Tr.flats kids = Tr.flats (kids.take (i + 1)) ++ Tr.flats (kids.drop (i + 1)) := by rw [← flats_append, List.take_append_drop]
  rw [e, flats_take_succ kids i h, List.length_append, List.length_append]; omega
theorem oks_getD {kids : List Tr} (h : Tr.oks kids) {i : Nat} (hi : i < kids.length) : (kids.getD i default).okT := by
  rw [List.getD_eq_getElem?_getD, List.getElem?_eq_getElem hi]; exact (oks_iff kids).1 h _ (List.getElem_mem hi)

theorem keeps_below {w w' : World} {F : Nat → Prop} (h : Below w.heap.size w w') : Keeps w F w' F := fun b _ _ hF hh => ⟨h.block b (Array.getElem?_eq_some_iff.1 hh).1, hF⟩
theorem keeps_own {w w' : World} {F : Nat → Prop} {B size n : Nat} {e : TypeId} {v : Value} {xs : List Value} (ho : w.ownsRow B e size v n xs) (hg : w.grownBy w' v.ownBlock) (hne : 202 ≠ e) : Keeps w F w' F := by
  refine fun b cur fz hF hh => ⟨hg.block b (Array.getElem?_eq_some_iff.1 hh).1 (fun e => ?_), hF⟩
  obtain ⟨c', fz', h'⟩ := Go.Lib.ownsRow_kind ho b e.symm
  rw [hh] at h'
  injection h' with h'
  injection h' with _ h'
  exact hne h'

theorem row_one {w : World} {g : Nat} {v : Value} (h : w.heap[g]? = some (.cells #[v] 202 (0, 0))) : RowV w (fun _ => True) (some ⟨g, 0, none⟩) 1 [v] := by
  refine ⟨rfl, fun _ => ⟨g, 0, _, _, rfl, trivial, h, fun i hi => ?_⟩⟩
  have : i = 0 := by omega
  subst this
  rfl

/-- What appendTree leaves. -/
def AppT (w : World) (B : Nat) (a : Option Addr) (n c : Nat) (ts : List Tm) (T : Tr) (e : Ending) (w' : World) : Prop :=
  ∃ a' n' c', e = .returned (.slice a' n' c') ∧ OwnT w' B a' n' c' (ts ++ T.flat) ∧ GrowsTo w (.slice a n c) w' (.slice a' n' c')
end Go.Proofs.YtbnpoliogldohaaGreat
