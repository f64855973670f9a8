/- Trees in memory (the program's interface values), and the contracts of their methods. -/
import Derived.Test.YtjfdmdemgnponaaTermCopies
namespace Go.Proofs.Ytjfdmdemgnponaa
open Go.RowKit

instance : Inhabited Tr := ⟨.node 0 0 []⟩

/-- The slice '.slice a n c' of trees reads as the values vs; its block is one of F. -/
def RowV (w : World) (F : Nat → Prop) (a : Option Addr) (n : Nat) (vs : List Value) : Prop :=
  vs.length = n ∧ (0 < n → ∃ b o cur fz, a = some ⟨b, o, none⟩ ∧ F b ∧ w.heap[b]? = some (.cells cur 53 fz) ∧ ∀ i, i < n → cur[o + i]? = some (vs.getD i .nilIface))

/-- The value is this tree; the blocks of its slices are some of F. -/
inductive IsTree (w : World) (F : Nat → Prop) : Value → Tr → Prop
  | num (n : Int) : IsTree w F (.iface 83 (.agg #[.int .i64 n])) (.node 0 n [])
  | var (n : Int) : IsTree w F (.iface 76 (.agg #[.int .i64 n])) (.node 1 n [])
  | cell (n : Int) (v : Value) (T : Tr) : IsTree w F v T → IsTree w F (.iface 78 (.agg #[.int .i64 n, v])) (.node 2 n [T])
  | op (k : Int) (a : Option Addr) (m c : Nat) (vs : List Value) (Ts : List Tr) : 3 ≤ k → k ≤ 17 → m ≤ 3 → Ts.length = m → RowV w F a m vs → (∀ i, i < m → IsTree w F (vs.getD i .nilIface) (Ts.getD i default)) →
      IsTree w F (.iface 85 (.agg #[.int .i64 k, .slice a m c])) (.node k 0 Ts)

/-- In w' the slices of trees of w in F lie as they did, and are in F'. -/
def Keeps (w : World) (F : Nat → Prop) (w' : World) (F' : Nat → Prop) : Prop := ∀ b cur fz, F b → w.heap[b]? = some (.cells cur 53 fz) → w'.heap[b]? = w.heap[b]? ∧ F' b
theorem RowV.keep {w w' : World} {F F' : Nat → Prop} {a : Option Addr} {n : Nat} {vs : List Value} (h : RowV w F a n vs) (hk : Keeps w F w' F') : RowV w' F' a n vs := by
  refine ⟨h.1, fun hp => ?_⟩
  obtain ⟨b, o, cur, fz, ha, hF, hh, hc⟩ := h.2 hp
  have := hk b cur fz hF hh
  exact ⟨b, o, cur, fz, ha, this.2, this.1.trans hh, hc⟩
theorem IsTree.keep {w w' : World} {F F' : Nat → Prop} {v : Value} {T : Tr} (h : IsTree w F v T) (hk : Keeps w F w' F') : IsTree w' F' v T := by
  induction h with
  | num n => exact .num n
  | var n => exact .var n
  | cell n v T _ ih => exact .cell n v T ih
  | op k a m c vs Ts h1 h2 h3 h4 h5 _ ih => exact .op k a m c vs Ts h1 h2 h3 h4 (h5.keep hk) ih
theorem RowV.at_ {w : World} {F : Nat → Prop} {a : Option Addr} {n : Nat} {vs : List Value} (h : RowV w F a n vs) {k : Nat} (hk : k < n) :
    ∃ b o, a = some ⟨b, o, none⟩ ∧ b < w.heap.size ∧ w.cell? ⟨b, o + k, none⟩ = some (vs.getD k .nilIface) := by
  obtain ⟨b, o, cur, fz, ha, hF, hh, hc⟩ := h.2 (by omega)
  refine ⟨b, o, ha, (Array.getElem?_eq_some_iff.1 hh).1, ?_⟩
  simp [World.cell?, hh, hc k hk]


/-! ### Which method it is -/
theorem m_num_under (x : Value) (w : World) : Sem.run Try.prog (method 227 83 (.agg #[x]) "loop.example/g00697/impl.under") w = .ok (102, .agg #[x]) w := by kernel_rfl
theorem m_var_under (x : Value) (w : World) : Sem.run Try.prog (method 227 76 (.agg #[x]) "loop.example/g00697/impl.under") w = .ok (98, .agg #[x]) w := by kernel_rfl
theorem m_cell_under (x y : Value) (w : World) : Sem.run Try.prog (method 227 78 (.agg #[x, y]) "loop.example/g00697/impl.under") w = .ok (100, .agg #[x, y]) w := by kernel_rfl
theorem m_op_under (x y : Value) (w : World) : Sem.run Try.prog (method 227 85 (.agg #[x, y]) "loop.example/g00697/impl.under") w = .ok (104, .agg #[x, y]) w := by kernel_rfl
theorem m_num_term (x : Value) (w : World) : Sem.run Try.prog (method 227 83 (.agg #[x]) "loop.example/g00697/impl.term") w = .ok (101, .agg #[x]) w := by kernel_rfl
theorem m_var_term (x : Value) (w : World) : Sem.run Try.prog (method 227 76 (.agg #[x]) "loop.example/g00697/impl.term") w = .ok (97, .agg #[x]) w := by kernel_rfl
theorem m_cell_term (x y : Value) (w : World) : Sem.run Try.prog (method 227 78 (.agg #[x, y]) "loop.example/g00697/impl.term") w = .ok (99, .agg #[x, y]) w := by kernel_rfl
theorem m_op_term (x y : Value) (w : World) : Sem.run Try.prog (method 227 85 (.agg #[x, y]) "loop.example/g00697/impl.term") w = .ok (103, .agg #[x, y]) w := by kernel_rfl

/-! ### The methods -/
theorem num_under (n : Int) (w : World) : Calls Try.prog 102 #[.agg #[.int .i64 n]] w fun e w' => e = .returned (.slice none 0 0) ∧ Below w.heap.size w w' := by
  go_enter Try.func102, Try.ntmps102
  go_wp2
  go_ret
  exact ⟨rfl, (Below.refl _ _).alloc (Nat.le_refl _) _⟩
theorem var_under (n : Int) (w : World) : Calls Try.prog 98 #[.agg #[.int .i64 n]] w fun e w' => e = .returned (.slice none 0 0) ∧ Below w.heap.size w w' := by
  go_enter Try.func98, Try.ntmps98
  go_wp2
  go_ret
  exact ⟨rfl, (Below.refl _ _).alloc (Nat.le_refl _) _⟩
theorem op_under (k : Int) (a : Option Addr) (m c : Nat) (w : World) : Calls Try.prog 104 #[.agg #[.int .i64 k, .slice a m c]] w fun e w' => e = .returned (.slice a m c) ∧ Below w.heap.size w w' := by
  go_enter Try.func104, Try.ntmps104
  go_wp2
  go_ret
  exact ⟨rfl, (Below.refl _ _).alloc (Nat.le_refl _) _⟩
theorem cell_under (n : Int) (u : TypeId) (x : Value) (w : World) : Calls Try.prog 100 #[.agg #[.int .i64 n, .iface u x]] w fun e w' => ∃ g, e = .returned (.slice (some ⟨g, 0, none⟩) 1 1) ∧ w.heap.size ≤ g ∧ w'.heap[g]? = some (.cells #[.iface u x] 53 (0, 0)) ∧ Below w.heap.size w w' := by
  go_enter Try.func100, Try.ntmps100
  go_wp2
  go_ret
  refine ⟨w.heap.size + 1, rfl, by omega, ?_, ((Below.refl _ _).alloc (Nat.le_refl _) _).alloc (by simp) _⟩
  have := heap_alloc_new (w.alloc (.cells #[.int .i64 n, .iface u x] 78)) (.cells #[.iface u x] 53)
  simpa using this
theorem num_term (n : Int) (w : World) : Calls Try.prog 101 #[.agg #[.int .i64 n]] w fun e w' => e = .returned (.agg #[.int .i64 0, .int .i64 n]) ∧ Below w.heap.size w w' := by
  go_enter Try.func101, Try.ntmps101
  go_wp2
  exact bodyPost_ret (v := .agg #[.int .i64 0, .int .i64 n]) (by simp [results, Try.results101, go_sem]) rfl ⟨rfl, ((Below.refl _ _).alloc (Nat.le_refl _) _).alloc (by simp) _⟩
theorem var_term (n : Int) (w : World) : Calls Try.prog 97 #[.agg #[.int .i64 n]] w fun e w' => e = .returned (.agg #[.int .i64 1, .int .i64 n]) ∧ Below w.heap.size w w' := by
  go_enter Try.func97, Try.ntmps97
  go_wp2
  exact bodyPost_ret (v := .agg #[.int .i64 1, .int .i64 n]) (by simp [results, Try.results97, go_sem]) rfl ⟨rfl, ((Below.refl _ _).alloc (Nat.le_refl _) _).alloc (by simp) _⟩
theorem cell_term (n : Int) (u : TypeId) (x : Value) (w : World) : Calls Try.prog 99 #[.agg #[.int .i64 n, .iface u x]] w fun e w' => e = .returned (.agg #[.int .i64 2, .int .i64 n]) ∧ Below w.heap.size w w' := by
  go_enter Try.func99, Try.ntmps99
  go_wp2
  exact bodyPost_ret (v := .agg #[.int .i64 2, .int .i64 n]) (by simp [results, Try.results99, go_sem]) rfl ⟨rfl, ((Below.refl _ _).alloc (Nat.le_refl _) _).alloc (by simp) _⟩
theorem op_term (k : Int) (a : Option Addr) (m c : Nat) (w : World) : Calls Try.prog 103 #[.agg #[.int .i64 k, .slice a m c]] w fun e w' => e = .returned (.agg #[.int .i64 k, .int .i64 0]) ∧ Below w.heap.size w w' := by
  go_enter Try.func103, Try.ntmps103
  go_wp2
  exact bodyPost_ret (v := .agg #[.int .i64 k, .int .i64 0]) (by simp [results, Try.results103, go_sem]) rfl ⟨rfl, ((Below.refl _ _).alloc (Nat.le_refl _) _).alloc (by simp) _⟩
end Go.Proofs.Ytjfdmdemgnponaa
