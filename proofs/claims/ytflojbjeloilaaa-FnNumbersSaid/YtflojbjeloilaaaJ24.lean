/- The contract of the library's slices.Backward at Inputs: what its function value yields. -/
import Derived.Test.YtflojbjeloilaaaJ22
import Derived.RangeFuncNested
import Derived.RangeFuncBound
import Derived.RangeFuncCalls
import Derived.RangeFuncLeaves
import Derived.Shelf.Abstract
import Derived.Shelf.RegionOpen
import Derived.OwnWalkIn
import Derived.TacticsInMore
import Derived.LoopNIn
import Derived.LoopIn
namespace Go.Proofs.Ytflojbjeloilaaa
open Go.RowKit Go.Shelf
attribute [local go_sem] Oper.semAt_some

/-- The places below L, from the last one down. -/
def backTo (L k : Nat) : List { j : Nat // j < L } := (List.range k).filterMap (fun i => if h : i < L then some ⟨L - 1 - i, by omega⟩ else none)
theorem backTo_succ {L k : Nat} (h : k < L) : backTo L (k + 1) = backTo L k ++ [⟨L - 1 - k, by omega⟩] := by
  simp [backTo, List.range_succ, List.filterMap_append, h]
theorem backTo_len {L : Nat} : ∀ k, k ≤ L → (backTo L k).length = k
  | 0, _ => rfl
  | k + 1, h => by rw [backTo_succ (by omega), List.length_append, backTo_len k (by omega)]; rfl
/-- What yield is handed. -/
def encB (ts : List Tm) (L : Nat) (x : { j : Nat // j < L }) : Array Value := #[.int .i64 (x.1 : Int), .agg #[.int .i64 (tmAt ts x.1).1, .int .i64 (tmAt ts x.1).2]]
/-- All blocks below n₀ but the block b stand as they stood. -/
structure KeepBut (n₀ b : Nat) (W W' : World) : Prop where
  os : W'.os = W.os
  tape : W'.tape = W.tape
  output : W'.output = W.output
  size : W.heap.size ≤ W'.heap.size
  block : ∀ k, k < n₀ → k ≠ b → W'.heap[k]? = W.heap[k]?
theorem KeepBut.refl (n₀ b : Nat) (W : World) : KeepBut n₀ b W W := ⟨rfl, rfl, rfl, Nat.le_refl _, fun _ _ _ => rfl⟩
theorem KeepBut.trans {n₀ b : Nat} {A B C : World} (h : KeepBut n₀ b A B) (k : KeepBut n₀ b B C) : KeepBut n₀ b A C :=
  ⟨k.os.trans h.os, k.tape.trans h.tape, k.output.trans h.output, Nat.le_trans h.size k.size, fun i hi hne => (k.block i hi hne).trans (h.block i hi hne)⟩
theorem KeepBut.of_below {n₀ b : Nat} {A B : World} (h : Below n₀ A B) : KeepBut n₀ b A B := ⟨h.os, h.tape, h.output, h.size, fun k hk _ => h.block k hk⟩
theorem KeepBut.set {n₀ b j : Nat} (W : World) (v : Value) : KeepBut n₀ b W (W.setCell ⟨b, j, none⟩ v) := ⟨rfl, rfl, rfl, by simp, fun k _ hne => Below.heap_setCell _ _ _ k (fun e => hne e)⟩
theorem KeepBut.put {n₀ b l : Nat} (W : World) (o : Obj) (hl : n₀ ≤ l) : KeepBut n₀ b W (W.putObj l o) :=
  ⟨rfl, rfl, rfl, by simp, fun k hk _ => World.putObj_heap_other (by omega)⟩
theorem ownI_same {w w' : World} {B : Nat} {a : Option Addr} {n c : Nat} {ts : List Tm} (h : OwnI w B a n c ts) (hs : ∀ g, (Value.slice a n c).ownBlock = some g → w'.heap[g]? = w.heap[g]?) : OwnI w' B a n c ts := by
  refine ⟨⟨h.1.1, ?_⟩, h.2⟩
  rcases h.1.2 with hn | ⟨g, cap, cur, e, hb, hg, r⟩
  · exact .inl hn
  · exact .inr ⟨g, cap, cur, e, hb, (hs g (by rw [e]; rfl)).trans hg, r⟩
set_option maxRecDepth 100000 in
set_option maxHeartbeats 2000000 in
theorem backward1_in (n : Nat) (hn : 1 ≤ n) (l Bs L cap : Nat) (a : Option Addr) (ts : List Tm) (Kp : World → World → Prop) (hKr : ∀ W, Kp W W) (hKt : ∀ {A B C : World}, Kp A B → Kp B C → Kp A C) (J Jx : List { j : Nat // j < L } → World → Prop)
    (hY : ∀ pre x W, J pre W → pre.length < L → YieldAt Fence.wide (n - 1) Try.prog l (encB ts L x) W fun e W' =>
      (e = .returned (.bool true) ∧ J (pre ++ [x]) W' ∧ Kp W W') ∨ (e = .returned (.bool false) ∧ Jx (pre ++ [x]) W'))
    (W : World) (hBs : ∀ W', Kp W W' → W'.cell? ⟨Bs, 0, none⟩ = some (.slice a L cap)) (hT : ∀ W', Kp W W' → Terms W' a L ts) (h0 : J [] W) :
    CallsIn Fence.wide n Try.prog 89 #[.func (.yield l) #[] #[], .pointer (some ⟨Bs, 0, none⟩)] W fun e W' => (∃ v, e = .returned v) ∧
      ((∃ ys, ys = backTo L L ∧ J ys W') ∨ (∃ pre, (∃ k, k ≤ L ∧ pre = backTo L k) ∧ Jx pre W')) := by
  have hL : L ≤ 1048576 := (hT W (hKr _)).2.1
  have HT := Lib.hid hT
  have HBS := Lib.hid hBs
  have hbs0 := hBs W (hKr _)
  clear hT hBs
  refine callsIn_of_wp Try.func89 rfl trivial ?_ rfl
  simp only [Try.ntmps89, List.size_toArray, List.length_cons, List.length_nil, Nat.reduceAdd, Nat.reduceSub, Array.replicate_succ, Array.replicate_zero, List.push_toArray, List.append_toArray, List.nil_append, List.cons_append]
  gi_wp2
  gi_loopw [3] (fun i wr => ∃ j k : Nat, j + k = L ∧ i = .int .i64 ((j : Int) - 1) ∧ J (backTo L k) wr ∧ Kp W wr)
    (fun i _ => (intOf i + 1).toNat)
  case atStart => exact ⟨L, 0, by omega, rfl, h0, hKr _⟩
  case round =>
    obtain ⟨j, k, hjk, rfl, hJs, hnx⟩ := hrel
    rcases j with _ | j
    · obtain rfl : k = L := by omega
      have hneg : decide ((0 : Int) ≤ -1) = false := rfl
      gi_wp2
      go_end0
      exact ⟨⟨_, rfl⟩, .inl ⟨_, rfl, hJs⟩⟩
    · have e1 : (((j + 1 : Nat) : Int) - 1) = (j : Int) := by omega
      rw [e1]
      have hjl : j < L := by omega
      have hbs := HBS.out wr hnx
      obtain ⟨b, o, x, y, rfl, hbl, hz, hi1, hi2, hc1, hc2⟩ := (HT.out wr hnx).at_ hjl
      have hz' := hz.out
      obtain ⟨fn, tmps, assign, body, hy, hR⟩ := hY _ ⟨j, hjl⟩ wr hJs (by rw [backTo_len k (by omega)]; omega)
      simp only [encB, hz'] at hy
      have HBK : Hid (backTo L k ++ [⟨j, hjl⟩] = backTo L (k + 1)) := Lib.hid (by rw [backTo_succ (by omega)]; congr 2; apply Subtype.ext; simp only []; omega)
      clear hz hz' e1
      gi_wp2
      refine hR.mono ?_
      rintro e W3 (⟨rfl, hJ3, hk3⟩ | ⟨rfl, hJx3⟩)
      · gi_wp2
        go_roundw
        case rel => exact ⟨j, k + 1, by omega, rfl, by rw [← HBK.out]; exact hJ3, hKt hnx hk3⟩
        case measure => simp [intOf]
      · gi_wp2
        refine bodyPost_ret (results_none rfl _ _ _) rfl ?_
        exact ⟨⟨_, rfl⟩, .inr ⟨_, ⟨k + 1, by omega, HBK.out⟩, hJx3⟩⟩
set_option maxHeartbeats 1000000 in
theorem backward_in (n : Nat) (a : Option Addr) (len cap : Nat) (w : World) :
    CallsIn Fence.wide n Try.prog 57 #[.slice a len cap] w fun e w' => e = .returned (.func (.func 89) #[] #[.pointer (some ⟨w.heap.size, 0, none⟩)]) ∧ w' = w.alloc (.cells #[.slice a len cap] 24) := by
  refine callsIn_of_wp Try.func57 rfl trivial ?_ rfl
  simp only [Try.ntmps57, List.size_toArray, List.length_cons, List.length_nil, Nat.reduceAdd, Nat.reduceSub, Array.replicate_succ, Array.replicate_zero, List.push_toArray, List.append_toArray, List.nil_append, List.cons_append]
  gi_wp2
  go_ret
  exact ⟨rfl, rfl⟩
theorem backward_stops (n : Nat) (hn : 1 ≤ n) (Bs L cap : Nat) (a : Option Addr) (ts : List Tm) (Kp : World → World → Prop) (hKr : ∀ W, Kp W W) (hKt : ∀ {A B C : World}, Kp A B → Kp B C → Kp A C) (w : World)
    (hc : ∀ W W', Below w.heap.size w W → Kp W W' → W'.cell? ⟨Bs, 0, none⟩ = some (.slice a L cap)) (hT : ∀ W W', Below w.heap.size w W → Kp W W' → Terms W' a L ts) :
    SeqStopsK Fence.wide n Try.prog 89 #[.pointer (some ⟨Bs, 0, none⟩)] (encB ts L) Kp (fun ys => ys = backTo L L) (fun pre => ∃ k, k ≤ L ∧ pre = backTo L k) L w := fun l J Jx W hW _ _ hY h0 =>
  backward1_in n hn l Bs L cap a ts Kp hKr hKt J Jx hY W (fun W' hk => hc W W' hW hk) (fun W' hk => hT W W' hW hk) h0
end Go.Proofs.Ytflojbjeloilaaa
