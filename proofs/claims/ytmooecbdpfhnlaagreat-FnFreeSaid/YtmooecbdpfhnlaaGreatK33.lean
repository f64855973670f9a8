/- Joined texts of this proof (ImplSet, ImplAdd), in build order. -/
import Derived.Test.YtmooecbdpfhnlaaGreatK16
import Derived.Test.YtmooecbdpfhnlaaGreatK31
import Derived.Test.YtmooecbdpfhnlaaGreatK32
import Derived.Laws.BytesArg
import Derived.Test.YtmooecbdpfhnlaaGreatK30
/- The contracts of the program's bytesOf, keyOf, newOutcomeSet. -/
namespace Go.Proofs.YtmooecbdpfhnlaaGreat
open Go.RowKit

theorem info_u8 : (Tryz.prog.info? 5).map (fun i => (i.zero, i.size, i.bytes)) = some (some (.int .u8 0), 1, 1) := by kernel_rfl
/-- A slice of bytes of the call's own. -/
def OwnU (w : World) (B : Nat) (a : Option Addr) (n c : Nat) (us : List Int) : Prop := w.ownsRow B 5 1 (.slice a n c) n (us.map (Value.int .u8)) ∧ n ≤ 1048576
theorem make_bytes (n : Nat) (h : n ≤ 1048576) (w : World) : (Instr.makeSlice 22 (.int .i64 (n : Int)) (.int .i64 (n : Int))).run Tryz.prog w = .ok (.slice (some ⟨w.heap.size, 0, none⟩) n n) (w.alloc (.cells (madeCells #[.int .u8 0] n) 5)) :=
  run_make_row' 22 5 (.int .u8 0) 1 Tryz.underlying22 info_u8 rfl .i64 .i64 n (by omega) (by omega) w
theorem own_madeU (w : World) (n : Nat) (h : n ≤ 1048576) : OwnU (w.alloc (.cells (madeCells #[.int .u8 0] n) 5)) w.heap.size (some ⟨w.heap.size, 0, none⟩) n n (List.replicate n 0) := by
  have e : (madeCells #[Value.int .u8 0] n).toList = (List.replicate n (0 : Int)).map (Value.int .u8) := by
    rw [toList_madeCells_one]; simp
  have hs : (madeCells #[Value.int .u8 0] n).size = n := by rw [← Array.length_toList, e]; simp
  refine ⟨⟨by simp, .inr ⟨w.heap.size, n, madeCells #[.int .u8 0] n, rfl, Nat.le_refl _, World.alloc_heap_new w _, Nat.le_refl _, by unfold maxLen; omega, by rw [hs, Nat.mul_one], ?_⟩⟩, h⟩
  rw [e, List.take_of_length_le (by simp)]
section
variable {w : World} {B g n c k : Nat} {us : List Int}
theorem OwnU.len {a : Option Addr} (h : OwnU w B a n c us) : us.length = n := by have := h.1.1; simpa using this
theorem OwnU.put (h : OwnU w B (some ⟨g, 0, none⟩) n c us) (k : Nat) (z : Int) : OwnU (w.setCell ⟨g, k, none⟩ (.int .u8 z)) B (some ⟨g, 0, none⟩) n c (us.set k z) := by
  refine ⟨?_, h.2⟩
  rw [List.map_set]; exact (h.1.stored k _).1
theorem OwnU.cell (h : OwnU w B (some ⟨g, 0, none⟩) n c us) (hk : k < n) : w.cell? ⟨g, k, none⟩ = some (.int .u8 (us.getD k 0)) := by
  have hl := h.len
  rw [h.1.cellAt k (by omega)]
  simp [List.getD_eq_getElem?_getD, List.getElem?_eq_getElem (show k < us.length by omega)]
theorem OwnU.frozen (h : OwnU w B (some ⟨g, 0, none⟩) n c us) (k : Nat) : w.frozen? ⟨g, k, none⟩ = false := by
  rcases h.1.2 with ⟨e, _⟩ | ⟨g', cap, cur, e, _, hg, _⟩
  · cases e
  · injection e with e
    injection e with e
    injection e with e
    subst e
    simp [World.frozen?, hg]
end
theorem wrap_u8 {z : Int} (h0 : 0 ≤ z) (h1 : z ≤ 255) : IntKind.u8.wrap z = z := by
  unfold IntKind.wrap
  simp [IntKind.bits, IntKind.signed]
  omega
/-- The first k are laid. -/
def bytesTo (zs : List Int) (n k : Nat) : List Int := zs.take k ++ List.replicate (n - k) 0
theorem bytesTo_succ {zs : List Int} {n k : Nat} {z : Int} (hl : zs.length = n) (hk : k < n) (hz : Hid (z = zs.getD k 0)) : (bytesTo zs n k).set k z = bytesTo zs n (k + 1) := by
  have e : zs[k]? = some z := by rw [hz.out, List.getD_eq_getElem?_getD, List.getElem?_eq_getElem (by omega)]; simp
  unfold bytesTo
  apply List.ext_getElem?
  intro i
  rw [List.getElem?_set]
  simp only [List.length_append, List.length_take, List.length_replicate, List.getElem?_append, List.getElem?_replicate, List.getElem?_take]
  by_cases hi : k = i
  · subst hi
    rw [if_pos rfl, if_pos (by omega), if_pos (by omega), if_pos (by omega)]
    exact e.symm
  · rw [if_neg hi]
    by_cases h1 : i < k
    · rw [if_pos (by omega), if_pos h1, if_pos (by omega), if_pos (by omega)]
    · rw [if_neg (by omega), if_neg (show ¬ i < min (k + 1) zs.length by omega)]
      by_cases h2 : i - min k zs.length < n - k
      · rw [if_pos h2, if_pos (by omega)]
      · rw [if_neg h2, if_neg (by omega)]
set_option maxHeartbeats 1600000 in
theorem bytesOf_any (a : Option Addr) (n c : Nat) (zs : List Int) (w : World) (h : Ints w a n zs) (hz : ∀ z ∈ zs, 0 ≤ z ∧ z ≤ 255) (hn : n ≤ 1000) :
    Calls Tryz.prog 99 #[.slice a n c] w fun e w' => e = .returned (.string (strOfNums zs)) ∧ Below w.heap.size w w' := by
  have HL := Lib.hid h.1
  have HZ := Lib.hid hz
  have HI := Lib.hid h
  have hmk := fun w => make_bytes n (by omega) w
  have HO0 := Lib.hid (own_madeU w n (by omega))
  have hb0 : Below w.heap.size w (w.alloc (.cells (madeCells #[.int .u8 0] n) 5)) := (Below.refl _ _).alloc (Nat.le_refl _) _
  have HBB := Lib.hid hb0
  clear h hz hb0
  go_enter Tryz.func99, Tryz.ntmps99
  go_wp2_with fail
  go_loopw [11] (fun i wr => ∃ k : Nat, k ≤ n ∧ i = .int .i64 (k : Int) ∧ OwnU wr w.heap.size (some ⟨w.heap.size, 0, none⟩) n n (bytesTo zs n k) ∧ Below w.heap.size w wr) (fun i _ => n - (intOf i).toNat)
  case atStart => exact ⟨0, Nat.zero_le _, rfl, by simpa [bytesTo] using HO0.out, HBB.out⟩
  case round =>
    clear HO0 HBB hmk
    obtain ⟨k, hk, rfl, hown, hbel⟩ := hrel
    by_cases hlt : k < n
    · obtain ⟨b, o, z, rfl, hb, hz, hin, hc⟩ := (HI.out.below hbel).at_ hlt
      have hzz := HZ.out z (by rw [hz.out]; exact getD_mem (by rw [HL.out]; exact hlt))
      have hw8 := wrap_u8 hzz.1 hzz.2
      have hcell := hown.cell hlt
      have hfr := hown.frozen k
      have hput := hown.put k z
      rw [bytesTo_succ HL.out hlt hz] at hput
      have HP := Lib.hid hput
      have HB := Lib.hid (below_set hbel (b := w.heap.size) (j := k) (Nat.le_refl _) (.int .u8 z))
      clear hput hown hbel hz hin hb hzz
      go_wp2
      go_roundw
      case rel => exact ⟨k + 1, by omega, by go_num, HP.out, HB.out⟩
      case measure => simp [intOf]; omega
    · obtain rfl : n = k := by omega
      have hcv := run_convert_bytes_arg (P := Tryz.prog) wr 22 5 Tryz.underlying22 Tryz.underlying5 w.heap.size 0 n n zs HL.out (fun i hi => by
        rw [Nat.zero_add, hown.cell hi]
        simp [bytesTo, List.take_of_length_le (show zs.length ≤ n by rw [HL.out]; exact Nat.le_refl _)]) 9 Tryz.underlying9
      clear hown
      go_wp2
      go_ret
      exact ⟨rfl, hbel⟩
/-- The key of an outcome. -/
def keyO (o : Oc) : OKey := (strOfNums o.1, o.2.1, o.2.2)
theorem str_inj {xs ys : List Int} (hx : ∀ z ∈ xs, 0 ≤ z ∧ z ≤ 255) (hy : ∀ z ∈ ys, 0 ≤ z ∧ z ≤ 255) (h : strOfNums xs = strOfNums ys) : xs = ys := by
  have e := congrArg (fun s : ByteArray => s.data.toList) h
  simp only [strOfNums_data] at e
  have hl : xs.length = ys.length := by have := congrArg List.length e; simpa using this
  apply List.ext_getElem hl
  intro i h1 h2
  have ei := congrArg (fun l => l[i]?) e
  simp only [List.getElem?_map, List.getElem?_eq_getElem h1, List.getElem?_eq_getElem h2, Option.map_some, Option.some.injEq] at ei
  have a := hx _ (List.getElem_mem h1)
  have b := hy _ (List.getElem_mem h2)
  have en := congrArg UInt8.toNat ei
  simp only [UInt8.toNat_ofNat'] at en
  omega
/-- Values that are bytes. -/
def ByteO (o : Oc) : Prop := ∀ z ∈ o.1, 0 ≤ z ∧ z ≤ 255
theorem key_inj {o o' : Oc} (h : ByteO o) (h' : ByteO o') (e : keyO o = keyO o') : o = o' := by
  obtain ⟨a, b, c⟩ := o
  obtain ⟨a', b', c'⟩ := o'
  simp only [keyO, Prod.mk.injEq] at e
  have := str_inj h h' e.1
  simp only at this
  rw [this, e.2.1, e.2.2]
set_option maxHeartbeats 1600000 in
theorem keyOf_any (E : Nat) (v : Option Addr) (m d : Nat) (en co : Int) (o : Oc) (w : World) (h : OcOf w E ⟨(v, m, d), en, co⟩ o) (hz : ByteO o) (hm : m ≤ 1000) :
    Calls Tryz.prog 142 #[.agg #[.slice v m d, .int .i64 en, .int .i64 co]] w fun e w' => e = .returned (okV (keyO o)) ∧ Below w.heap.size w w' := by
  obtain ⟨h1, h2, _, _, ho⟩ := h
  simp only [] at h1 h2 ho
  have HI := Lib.hid ho.ints
  have HZ := Lib.hid hz
  have HE : Hid (okV (keyO o) = .agg #[.string (strOfNums o.1), .int .i64 en, .int .i64 co]) := Lib.hid (by rw [h1, h2]; rfl)
  rw [HE.out]
  clear h1 h2 ho hz HE
  obtain ⟨wa, HW⟩ : ∃ wa, Hid (wa = (w.alloc (.cells #[.slice v m d, .int .i64 en, .int .i64 co] 43)).alloc (.cells #[.string ⟨#[]⟩, .int .i64 0, .int .i64 0] 187)) := ⟨_, rfl⟩
  have B0 : Blk wa w.heap.size 43 [.slice v m d, .int .i64 en, .int .i64 co] := by rw [HW.out]; exact (Blk.new w _ _).alloc _
  have B1 : Blk wa (w.heap.size + 1) 187 [.string ⟨#[]⟩, .int .i64 0, .int .i64 0] := by rw [HW.out]; simpa using Blk.new (w.alloc (.cells #[.slice v m d, .int .i64 en, .int .i64 co] 43)) 187 [.string ⟨#[]⟩, .int .i64 0, .int .i64 0]
  have hba : Below w.heap.size w wa := by rw [HW.out]; exact ((Below.refl _ _).alloc (Nat.le_refl _) _).alloc (by simp) _
  have t0 := B0.cell (j := 0) rfl
  have t1 := B0.cell (j := 1) rfl
  have t2 := B0.cell (j := 2) rfl
  have HB0 := Lib.hid B0
  have HB1 := Lib.hid B1
  have HBA := Lib.hid hba
  obtain ⟨S, HS⟩ : ∃ S, Hid (strOfNums o.1 = S) := ⟨_, rfl⟩
  rw [HS.out]
  have HC : Hid (∀ w', Below wa.heap.size wa w' → Calls Tryz.prog 99 #[.slice v m d] w' fun e w'' => e = .returned (.string S) ∧ Below w'.heap.size w' w'') := Lib.hid (fun w' hb => by rw [← HS.out]; exact bytesOf_any v m d o.1 w' ((HI.out.below hba).below hb) HZ.out hm)
  clear B0 B1 hba
  go_enter Tryz.func142, Tryz.ntmps142
  go_wp2_with fail
  rw [← HW.out]
  have hd : Below wa.heap.size wa wa.drew := ⟨rfl, rfl, rfl, Nat.le_refl _, fun _ _ => rfl⟩
  have HD := Lib.hid hd
  go_region_with (go_at_call 99; refine (HC.out _ HD.out).mono ?_; rintro e z1 ⟨rfl, hz1⟩; have hz := HD.out.trans (hz1.mono HD.out.size); have X0 := HB0.out.below hz HB0.out.lt; have X1 := HB1.out.below hz HB1.out.lt; have x1 := X0.cell (j := 1) rfl; have x2 := X0.cell (j := 2) rfl; have y0 := X1.cell (j := 0) rfl; have y1 := X1.cell (j := 1) rfl; have y2 := X1.cell (j := 2) rfl; have f0 := X1.frozen 0; have f1 := X1.frozen 1; have f2 := X1.frozen 2; have Z3 := (((X1.set (j := 0) (.string S)).set (j := 1) (.int .i64 en)).set (j := 2) (.int .i64 co)); have r0 := Z3.cell (j := 0) rfl; have r1 := Z3.cell (j := 1) rfl; have r2 := Z3.cell (j := 2) rfl; have HF := Lib.hid (below_set (below_set (below_set (HBA.out.trans (hz.mono HBA.out.size)) (b := w.heap.size + 1) (j := 0) (by omega) (.string S)) (b := w.heap.size + 1) (j := 1) (by omega) (.int .i64 en)) (b := w.heap.size + 1) (j := 2) (by omega) (.int .i64 co)); clear X0 X1 Z3 hz hz1)
  all_goals
    go_wp2
    refine bodyPost_ret (v := .agg #[.string S, .int .i64 en, .int .i64 co]) (by simp [results, Tryz.results142, go_sem, r0, r1, r2]) rfl ?_
    exact ⟨rfl, HF.out⟩
end Go.Proofs.YtmooecbdpfhnlaaGreat
/- The program's sets of outcomes: a map and a list behind a pointer; newOutcomeSet, add. -/
namespace Go.Proofs.YtmooecbdpfhnlaaGreat
open Go.RowKit

/-- What lies outside of D is as it was. -/
structure Turn (D : Nat → Prop) (w w' : World) : Prop where
  os : w'.os = w.os
  tape : w'.tape = w.tape
  output : w'.output = w.output
  size : w.heap.size ≤ w'.heap.size
  block : ∀ i, i < w.heap.size → ¬ D i → w'.heap[i]? = w.heap[i]?
theorem Turn.refl (D : Nat → Prop) (w : World) : Turn D w w := ⟨rfl, rfl, rfl, Nat.le_refl _, fun _ _ _ => rfl⟩
theorem Turn.trans {D : Nat → Prop} {a b c : World} (h : Turn D a b) (k : Turn D b c) : Turn D a c :=
  ⟨k.os.trans h.os, k.tape.trans h.tape, k.output.trans h.output, Nat.le_trans h.size k.size, fun i hi hd => (k.block i (Nat.lt_of_lt_of_le hi h.size) hd).trans (h.block i hi hd)⟩
theorem Turn.of_below {D : Nat → Prop} {a b : World} (h : Below a.heap.size a b) : Turn D a b := ⟨h.os, h.tape, h.output, h.size, fun i hi _ => h.block i hi⟩
theorem Turn.of_grown {D : Nat → Prop} {a b : World} {row : Option Nat} (h : a.grownBy b row) (hr : ∀ g, row = some g → D g) : Turn D a b :=
  ⟨h.os, h.tape, h.output, h.size, fun i hi hd => h.block i hi (fun e => hd (hr i e.symm))⟩
theorem Turn.below {D : Nat → Prop} {B : Nat} {a b : World} (h : Turn D a b) (hD : ∀ i, D i → B ≤ i) (hB : B ≤ a.heap.size) : Below B a b :=
  ⟨h.os, h.tape, h.output, h.size, fun i hi => h.block i (by omega) (fun hd => by have := hD i hd; omega)⟩
/-- A set of outcomes: its box k, its map, its list, which lie in D; the rows of numbers lie from B on and below N. -/
def SetW (w : World) (D : Nat → Prop) (B N k : Nat) (os : List Oc) : Prop := ∃ m a n c rs,
  Blk w k 104 [.map (some m), .slice a n c] ∧ D k ∧ MapW w m ((os.map keyO).map okV) (os.map fun _ => .bool true) ∧ D m ∧
  OwnO w B B a n c rs os ∧ (∀ g, (Value.slice a n c).ownBlock = some g → D g) ∧ ApartO rs ∧ (∀ i g, i < n → (slV (rAt rs i).vals).ownBlock = some g → g < N) ∧ ∀ o ∈ os, ByteO o
section
variable {w w' : World} {D : Nat → Prop} {B N k : Nat} {os : List Oc}
theorem SetW.below (h : SetW w D B N k os) (hb : Below w.heap.size w w') : SetW w' D B N k os := by
  obtain ⟨m, a, n, c, rs, h1, h2, h3, h4, h5, h6, h7, h8, h9⟩ := h
  exact ⟨m, a, n, c, rs, h1.below hb h1.lt, h2, h3.below hb h3.lt, h4, h5.below hb, h6, h7, h8, h9⟩
theorem SetW.up {N' : Nat} (h : SetW w D B N k os) (hN : N ≤ N') : SetW w D B N' k os := by
  obtain ⟨m, a, n, c, rs, h1, h2, h3, h4, h5, h6, h7, h8, h9⟩ := h
  exact ⟨m, a, n, c, rs, h1, h2, h3, h4, h5, h6, h7, fun i g hi e => Nat.lt_of_lt_of_le (h8 i g hi e) hN, h9⟩
/-- Its numbers lie below the heap's end. -/
theorem SetW.top (h : SetW w D B N k os) : SetW w D B w.heap.size k os := by
  obtain ⟨m, a, n, c, rs, h1, h2, h3, h4, h5, h6, h7, h8, h9⟩ := h
  exact ⟨m, a, n, c, rs, h1, h2, h3, h4, h5, h6, h7, fun i g hi e => ((h5.2.2.2 i hi).2.2.2.2.block g e).2, h9⟩
/-- What turns elsewhere leaves it as it was. -/
theorem SetW.turn {D' : Nat → Prop} (h : SetW w D B N k os) (ht : Turn D' w w') (hD : ∀ i, D i → ¬ D' i) (hB : ∀ i, B ≤ i → i < N → ¬ D' i) : SetW w' D B N k os := by
  obtain ⟨m, a, n, c, rs, h1, h2, h3, h4, h5, h6, h7, h8, h9⟩ := h
  have hm := h3.lt
  obtain ⟨es, cl, e1, e2, e3⟩ := h3
  refine ⟨m, a, n, c, rs, (ht.block k h1.lt (hD k h2)).trans h1, h2, ⟨es, cl, (ht.block m hm (hD m h4)).trans e1, e2, e3⟩, h4, ?_, h6, h7, h8, h9⟩
  refine ⟨⟨h5.1.1, ?_⟩, h5.2.1, h5.2.2.1, fun i hi => ?_⟩
  · rcases h5.1.2 with hn | ⟨g, cap, cur, e, hb, hg, r⟩
    · exact .inl hn
    · exact .inr ⟨g, cap, cur, e, hb, (ht.block g (h5.block g (by rw [e]; rfl)).2 (hD g (h6 g (by rw [e]; rfl)))).trans hg, r⟩
  · obtain ⟨q1, q2, q3, q4, q5⟩ := h5.2.2.2 i hi
    refine ⟨q1, q2, q3, q4, ⟨⟨q5.1.1, ?_⟩, q5.2⟩⟩
    rcases q5.1.2 with hn | ⟨g, cap, cur, e, hb, hg, r⟩
    · exact .inl hn
    · have ho : (slV (rAt rs i).vals).ownBlock = some g := by rw [slV, e]; rfl
      exact .inr ⟨g, cap, cur, e, hb, (ht.block g (q5.block g ho).2 (hB g hb (h8 i g hi ho))).trans hg, r⟩
end
theorem own_not_map {w : World} {B e size n m : Nat} {v : Value} {xs ks vs : List Value} (h : w.ownsRow B e size v n xs) (hm : MapW w m ks vs) : ∀ g, v.ownBlock = some g → (some m : Option Nat) ≠ some g := by
  intro g hg e'
  injection e' with e'
  subst e'
  obtain ⟨c1, f1, h1⟩ := Go.Lib.ownsRow_kind h m hg
  obtain ⟨es, cl, h2, _⟩ := hm
  rw [h1] at h2
  cases h2
theorem blk_not_map {w : World} {b t m : Nat} {xs ks vs : List Value} (h : Blk w b t xs) (hm : MapW w m ks vs) : (some m : Option Nat) ≠ some b := by
  intro e'
  injection e' with e'
  subst e'
  obtain ⟨es, cl, h2, _⟩ := hm
  rw [show w.heap[m]? = _ from h] at h2
  cases h2
theorem map_not_own {w : World} {B e size n m : Nat} {v : Value} {xs ks vs : List Value} (h : w.ownsRow B e size v n xs) (hm : MapW w m ks vs) : v.ownBlock ≠ some m := fun e' => own_not_map h hm m e' rfl
set_option maxHeartbeats 800000 in
theorem newSet_any (w : World) : Calls Tryz.prog 60 #[] w fun e w' => e = .returned (.pointer (some ⟨w.heap.size + 1, 0, none⟩)) ∧ w' = (w.alloc (.map #[] 0)).alloc (.cells #[.map (some w.heap.size), .slice none 0 0] 104) := by
  have hmm := @run_makeMap Tryz.prog
  go_enter Tryz.func60, Tryz.ntmps60
  go_wp2
  go_ret
  exact ⟨rfl, rfl⟩
theorem setW_new (w : World) (D : Nat → Prop) (B N : Nat) (h0 : D w.heap.size) (h1 : D (w.heap.size + 1)) :
    SetW ((w.alloc (.map #[] 0)).alloc (.cells #[.map (some w.heap.size), .slice none 0 0] 104)) D B N (w.heap.size + 1) [] := by
  refine ⟨w.heap.size, none, 0, 0, [], ?_, h1, ?_, h0, ownO_nil _ _ _, fun g e => by simp [Value.ownBlock] at e, apartO_nil, fun i g hi => absurd hi (by omega), fun o ho => by simp at ho⟩
  · simpa using Blk.new (w.alloc (.map #[] 0)) 104 [.map (some w.heap.size), .slice none 0 0]
  · exact (mapW_made w).below (belA (Below.refl _ _)) (by simp)
theorem zero_bool (w : World) : (zeroValue 4).run Tryz.prog w = .ok (.bool false) w := by kernel_rfl
/-- Whether it is there. -/
theorem seen_any {w : World} {m : Nat} {os : List Oc} (h : MapW w m ((os.map keyO).map okV) (os.map fun _ => .bool true)) (hb : ∀ o ∈ os, ByteO o) (o : Oc) (ho : ByteO o) :
    (Instr.lookup 102 (.map (some m)) (okV (keyO o)) false).run Tryz.prog w = .ok (.bool (decide (o ∈ os))) w := by
  obtain ⟨v, hr, hv⟩ := h.lookup keyLaw_oc (t := 102) Tryz.underlying102 (.bool false) (zero_bool w) (keyO o)
  rw [hr]
  rcases hv with ⟨hn, rfl⟩ | ⟨j, h1, h2⟩
  · rw [decide_eq_false (fun hm => hn (List.mem_map.2 ⟨o, hm, rfl⟩))]
  · rw [List.getElem?_map] at h1 h2
    cases he : os[j]? with
    | none => rw [he] at h1; cases h1
    | some o' =>
      rw [he] at h1 h2
      simp only [Option.map_some, Option.some.injEq] at h1 h2
      have hm := List.mem_of_getElem? he
      have := key_inj (hb o' hm) ho h1
      subst this
      rw [← h2, decide_eq_true hm]
theorem cell_afterX {w8 : World} {k j : Nat} {v : Value} (h : w8.cell? ⟨k, j, none⟩ = some v) (o : Obj) : (w8.alloc o).cell? ⟨k, j, none⟩ = some v := by
  have hk : k < w8.heap.size := by
    rcases Nat.lt_or_ge k w8.heap.size with h' | h'
    · exact h'
    · simp [World.cell?, Array.getElem?_eq_none h'] at h
  exact ((belA (Below.refl _ w8)).cell hk).trans h
/-- One outcome more: the map knows it, the list has it. -/
theorem setW_add {w w3 w8 : World} {D : Nat → Prop} {B N k mp ln lc m d c8 : Nat} {la v a8 : Option Addr} {rs : List OcR} {os : List Oc} {oc : Oc} {en co : Int} (T : Turn D w w3) (hd3 : Below w3.heap.size w3 w3.drew)
    (_K3 : Blk w3 k 104 [.map (some mp), .slice la ln lc]) (M3 : MapW w3 mp ((os.map keyO ++ [keyO oc]).map okV) ((os.map fun _ => .bool true) ++ [.bool true])) (L3 : OwnO w3 B B la ln lc rs os) (C3 : OcOf w3 B ⟨(v, m, d), en, co⟩ oc)
    (hown8 : OwnO w8 B B a8 (ln + 1) c8 (rs ++ [⟨(v, m, d), en, co⟩]) (os ++ [oc])) (hg8 : GrowsTo (w3.drew.alloc (.cells #[.slice v m d, .int .i64 en, .int .i64 co] 43)) (.slice la ln lc) w8 (.slice a8 (ln + 1) c8))
    (h2 : D k) (h4 : D mp) (h6 : ∀ g, (Value.slice la ln lc).ownBlock = some g → D g) (hD : ∀ i, w3.heap.size ≤ i → D i) (_hB : B ≤ w.heap.size) (h7 : ApartO rs) (h8 : ∀ i g, i < ln → (slV (rAt rs i).vals).ownBlock = some g → g < N)
    (hv : ∀ g, (Value.slice v m d).ownBlock = some g → N ≤ g) (h9 : ∀ o ∈ os, ByteO o) (hby : ByteO oc) (_hs3 : w.heap.size ≤ w3.heap.size) (X8 : Blk w8 k 104 [.map (some mp), .slice la ln lc]) :
    SetW (w8.setCell ⟨k, 1, none⟩ (.slice a8 (ln + 1) c8)) D B (w8.setCell ⟨k, 1, none⟩ (.slice a8 (ln + 1) c8)).heap.size k (os ++ [oc]) ∧ Turn D w (w8.setCell ⟨k, 1, none⟩ (.slice a8 (ln + 1) c8)) := by
  have hba : Below w3.heap.size w3 (w3.drew.alloc (.cells #[.slice v m d, .int .i64 en, .int .i64 co] 43)) := belA hd3
  have M4 := M3.below hba M3.lt
  have L4 := L3.below hba
  have M8 := M4.kept hg8.1 (map_not_own L4.1 M4)
  have g9 := grown_set w8 k 1 (.slice a8 (ln + 1) c8)
  have M9 := M8.kept g9 (fun e => blk_not_map X8 M8 e.symm)
  have O9 : OwnO (w8.setCell ⟨k, 1, none⟩ (.slice a8 (ln + 1) c8)) B B a8 (ln + 1) c8 (rs ++ [⟨(v, m, d), en, co⟩]) (os ++ [oc]) := hown8.keep g9 (blk_apart X8 hown8.1 (by decide)) (fun i g hi e => blk_apart X8 (hown8.2.2.2 i hi).2.2.2.2.1 (by decide) g e)
  have hl := L3.len
  refine ⟨⟨mp, a8, ln + 1, c8, _, X8.set (j := 1) _, h2, ?_, h4, O9, fun g e => ?_, h7.snoc (fun i g hi e e' => ?_), fun i g hi e => ((O9.2.2.2 i hi).2.2.2.2.block g e).2, fun o ho => ?_⟩, ?_⟩
  · simpa using M9
  · rcases hg8.2 g e with e' | e'
    · exact h6 g e'
    · exact hD g (by have := hba.size; omega)
  · have := h8 i g (by omega) e
    have := hv g e'
    omega
  · rcases List.mem_append.1 ho with ho | ho
    · exact h9 o ho
    · rw [List.mem_singleton] at ho; subst ho; exact hby
  · exact ((T.trans (Turn.of_below hba)).trans (Turn.of_grown hg8.1 h6)).trans (Turn.of_grown g9 (fun g e => by injection e with e; rw [← e]; exact h2))
set_option maxRecDepth 20000 in
set_option maxHeartbeats 3200000 in
theorem add_any (w : World) (D : Nat → Prop) (B N k : Nat) (os : List Oc) (v : Option Addr) (m d : Nat) (en co : Int) (oc : Oc) (h : SetW w D B N k os) (hD : ∀ i, w.heap.size ≤ i → D i) (hB : B ≤ w.heap.size)
    (hoc : OcOf w B ⟨(v, m, d), en, co⟩ oc) (hby : ByteO oc) (hm : m ≤ 1000) (hv : ∀ g, (Value.slice v m d).ownBlock = some g → N ≤ g) (hlen : os.length ≤ 100000) :
    Calls Tryz.prog 104 #[.pointer (some ⟨k, 0, none⟩), .agg #[.slice v m d, .int .i64 en, .int .i64 co]] w fun e w' => e = .returned (.tuple #[]) ∧ SetW w' D B w'.heap.size k (addNew os oc) ∧ Turn D w w' := by
  obtain ⟨wa, HW⟩ : ∃ wa, Hid (wa = w.alloc (.cells #[.slice v m d, .int .i64 en, .int .i64 co] 43)) := ⟨_, rfl⟩
  have B0 : Blk wa w.heap.size 43 [.slice v m d, .int .i64 en, .int .i64 co] := by rw [HW.out]; exact Blk.new w _ _
  have hba : Below w.heap.size w wa := by rw [HW.out]; exact belA (Below.refl _ _)
  have hk1 := keyOf_any B v m d en co oc wa (hoc.below hba) hby hm
  have HK1 := Lib.hid hk1
  obtain ⟨KY, HKY⟩ : ∃ KY, Hid (okV (keyO oc) = KY) := ⟨_, rfl⟩
  rw [HKY.out] at HK1
  have HKA : Hid (KY = .agg #[.string (strOfNums oc.1), .int .i64 oc.2.1, .int .i64 oc.2.2]) := Lib.hid HKY.out.symm
  obtain ⟨S, HS⟩ : ∃ S, Hid (strOfNums oc.1 = S) := ⟨_, rfl⟩
  obtain ⟨o1, HO1⟩ : ∃ z, Hid (oc.2.1 = z) := ⟨_, rfl⟩
  obtain ⟨o2, HO2⟩ : ∃ z, Hid (oc.2.2 = z) := ⟨_, rfl⟩
  rw [HS.out, HO1.out, HO2.out] at HKA
  rw [HKA.out] at HK1
  have t0 := B0.cell (j := 0) rfl
  have t1 := B0.cell (j := 1) rfl
  have t2 := B0.cell (j := 2) rfl
  have HSW := Lib.hid h
  have HOC := Lib.hid hoc
  have HBY := Lib.hid hby
  have HDD := Lib.hid hD
  have HV := Lib.hid hv
  clear hk1 h hoc hby hD hv
  go_enter Tryz.func104, Tryz.ntmps104
  go_wp2_with fail
  rw [← HW.out]
  refine HK1.out.mono ?_
  rintro e w1 ⟨rfl, hb1⟩
  obtain ⟨wb, HWB⟩ : ∃ wb, Hid (wb = w1.alloc (.cells #[.string S, .int .i64 o1, .int .i64 o2] 187)) := ⟨_, rfl⟩
  have hbb : Below w1.heap.size w1 wb := by rw [HWB.out]; exact belA (Below.refl _ _)
  have hbw : Below w.heap.size w wb := hba.trans ((hb1.trans (hbb.mono hb1.size)).mono hba.size)
  have BO : Blk wb w.heap.size 43 [.slice v m d, .int .i64 en, .int .i64 co] := (B0.below hb1 B0.lt).below hbb (B0.below hb1 B0.lt).lt
  have BK : Blk wb w1.heap.size 187 [.string S, .int .i64 o1, .int .i64 o2] := by rw [HWB.out]; exact Blk.new w1 _ _
  have hkw : w.heap.size < w1.heap.size := Nat.lt_of_lt_of_le B0.lt hb1.size
  obtain ⟨mp, la, ln, lc, rs, h1, h2, h3, h4, h5, h6, h7, h8, h9⟩ := HSW.out.below hbw
  have hkk : k < w.heap.size := by obtain ⟨_, _, _, _, _, z, _⟩ := HSW.out; exact z.lt
  have hmk : mp < wb.heap.size := h3.lt
  have HH3 := Lib.hid h3
  have HH9 := Lib.hid h9
  have hseen : ∀ j, (Instr.lookup 102 (.map (some mp)) (.agg #[.string S, .int .i64 o1, .int .i64 o2]) false).run Tryz.prog (wb.drewN j) = .ok (.bool (decide (oc ∈ os))) (wb.drewN j) := fun j => by
    have := seen_any (w := wb.drewN j) HH3.out HH9.out oc HBY.out
    rw [HKY.out, HKA.out] at this
    exact this
  obtain ⟨q, HQ⟩ : ∃ q, Hid (decide (oc ∈ os) = q) := ⟨_, rfl⟩
  rw [HQ.out] at hseen
  have HB1 := Lib.hid h1
  have HB2 := Lib.hid BO
  have HB3 := Lib.hid BK
  have HBW := Lib.hid hbw
  have x0 := h1.cell (j := 0) rfl
  have y0 := BK.cell (j := 0) rfl
  have y1 := BK.cell (j := 1) rfl
  have y2 := BK.cell (j := 2) rfl
  clear t0 t1 t2 HK1 hb1 hbb hbw B0 hba HW
  cases q with
  | true =>
    have hin : oc ∈ os := by have := HQ.out; simpa using this
    have HF : Hid (∀ j, SetW (wb.drewN j) D B (wb.drewN j).heap.size k (addNew os oc) ∧ Turn D w (wb.drewN j)) := Lib.hid (fun j => by
      have hbj : Below w.heap.size w (wb.drewN j) := HBW.out.trans ((below_drewN wb j).mono HBW.out.size)
      rw [addNew, if_pos hin]
      exact ⟨(HSW.out.below hbj).top, Turn.of_below hbj⟩)
    clear h1 h2 h3 h4 h5 h6 h7 h8 h9 BO BK HB1 HB2 HB3 HH3 HH9 HSW hin
    go_wp2
    rw [← HWB.out]
    go_quiet (fail)
    rename_i nq
    have hff := HF.out nq
    go_wp2
    go_end0
    exact ⟨rfl, hff⟩
  | false =>
    have hnin : ¬ oc ∈ os := by have := HQ.out; simpa using this
    have hnk : keyO oc ∉ os.map keyO := fun hmem => by
      obtain ⟨o', ho', he⟩ := List.mem_map.1 hmem
      have := key_inj (HH9.out o' ho') HBY.out he
      subst this
      exact hnin ho'
    have HADD : Hid (addNew os oc = os ++ [oc]) := Lib.hid (by rw [addNew, if_neg hnin])
    have HNK := Lib.hid hnk
    have H2 := Lib.hid h2
    have H4 := Lib.hid h4
    have H5 := Lib.hid h5
    have H6 := Lib.hid h6
    have H7 := Lib.hid h7
    have H8 := Lib.hid h8
    clear h1 h2 h3 h4 h5 h6 h7 h8 h9 BO BK hnin hnk
    go_wp2
    rw [← HWB.out]
    go_quiet (fail)
    rename_i nq
    have hbx := below_drewN wb nq
    obtain ⟨wx, HWX⟩ : ∃ wx, Hid (wb.drewN nq = wx) := ⟨_, rfl⟩
    rw [HWX.out] at hbx ⊢
    have hsz := hbx.size
    have hd : Below wx.heap.size wx wx.drew := ⟨rfl, rfl, rfl, Nat.le_refl _, fun _ _ => rfl⟩
    have M1 := HH3.out.below hbx HH3.out.lt
    have M2 := M1.below hd M1.lt
    have K1 := HB1.out.below hbx HB1.out.lt
    have O1 := HB2.out.below hbx HB2.out.lt
    have Y1 := HB3.out.below hbx HB3.out.lt
    have L1 := H5.out.below hbx
    obtain ⟨w3, hmu, hM3, hg3⟩ := M2.insert keyLaw_oc (t := 102) Tryz.underlying102 (keyO oc) HNK.out (.bool true)
    rw [HKY.out, HKA.out] at hmu
    have K2 := K1.below hd K1.lt
    have O2 := O1.below hd O1.lt
    have K3 : Blk w3 k 104 [.map (some mp), .slice la ln lc] := blk_keep K2 hg3 (fun e => blk_not_map K2 M2 e)
    have O3 : Blk w3 w.heap.size 43 [.slice v m d, .int .i64 en, .int .i64 co] := blk_keep O2 hg3 (fun e => blk_not_map O2 M2 e)
    have L2 := L1.below hd
    have L3 : OwnO w3 B B la ln lc rs os := L2.keep hg3 (own_not_map L2.1 M2) (fun i g hi e => own_not_map (L2.2.2.2 i hi).2.2.2.2.1 M2 g e)
    have C1 := HOC.out.below (HBW.out.trans ((hbx.trans (hd.mono hbx.size)).mono HBW.out.size))
    have C3 : OcOf w3 B ⟨(v, m, d), en, co⟩ oc := ⟨C1.1, C1.2.1, C1.2.2.1, C1.2.2.2.1, C1.2.2.2.2.keep hg3 (own_not_map C1.2.2.2.2.1 M2)⟩
    have T3 : Turn D w w3 := (Turn.of_below (HBW.out.trans ((hbx.trans (hd.mono hbx.size)).mono HBW.out.size))).trans (Turn.of_grown hg3 (fun g e => by injection e with e; rw [← e]; exact H4.out))
    have HT3 := Lib.hid T3
    have HK3 := Lib.hid K3
    have HO3 := Lib.hid O3
    have HL3 := Lib.hid L3
    have HC3 := Lib.hid C3
    have HM3 := Lib.hid hM3
    have hs3 := T3.size
    have k0 := K1.cell (j := 0) rfl
    have y0 := Y1.cell (j := 0) rfl
    have y1 := Y1.cell (j := 1) rfl
    have y2 := Y1.cell (j := 2) rfl
    have l1 := K3.cell (j := 1) rfl
    have lf := K3.frozen 1
    have o0 := O3.cell (j := 0) rfl
    have o1 := O3.cell (j := 1) rfl
    have o2 := O3.cell (j := 2) rfl
    have hln : ln ≤ 100000 := by have := L3.2.2.1; omega
    clear x0 hseen hbx hd M1 M2 K1 O1 Y1 L1 L2 K2 O2 C1 T3 K3 O3 L3 C3 hM3 hg3 HWX HWB
    go_wp2
    go_region
    all_goals clear k0 y0 y1 y2 hmu
    all_goals go_wp2
    all_goals
      have hd3 : Below w3.heap.size w3 w3.drew := ⟨rfl, rfl, rfl, Nat.le_refl _, fun _ _ => rfl⟩
      have HL4 := Lib.hid (HL3.out.below hd3)
      have HK4 := Lib.hid (HK3.out.below hd3 HK3.out.lt)
      have HC4 := Lib.hid (HC3.out.below hd3)
      have l2 := cell_afterX l1 (.cells #[.slice v m d, .int .i64 en, .int .i64 co] 43)
    all_goals
      go_region_law (refine step_pushO _ (by rfl) _ _ (by rfl) B B la ln lc rs os (by rfl) (by exact HL4.out.alloc _) w3.heap.size v m d en co oc (by rfl) (by simp) (by simp) (by simp) (HC4.out.below (belA (Below.refl _ _))) (by omega) (by simp; omega) ?_; intro a8 c8 w8 hown8 hg8; have X8 := blk_row (HK4.out.alloc (.cells #[.slice v m d, .int .i64 en, .int .i64 co] 43)) (HL4.out.alloc (.cells #[.slice v m d, .int .i64 en, .int .i64 co] 43)).1 (by decide) hg8.1; have r1 := X8.cell (j := 1) rfl; have rf := X8.frozen 1)
    all_goals
      have HF := Lib.hid (setW_add HT3.out hd3 HK3.out HM3.out HL3.out HC3.out hown8 hg8 H2.out H4.out H6.out (fun i hi => HDD.out i (by omega)) hB H7.out H8.out HV.out HH9.out HBY.out hs3 X8)
      rw [← HADD.out] at HF
      clear X8 r1 rf hown8 hg8 hd3 HL4 HK4 HC4 l1 l2 lf o0 o1 o2
      go_wp2
      go_end0
      exact ⟨rfl, HF.out⟩
end Go.Proofs.YtmooecbdpfhnlaaGreat
