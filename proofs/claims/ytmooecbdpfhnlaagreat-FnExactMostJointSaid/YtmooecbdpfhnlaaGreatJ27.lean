/- Joined texts of this proof (ImplSet, CountMath, SpecCount, SpecFits, SpecAll, StepRun), in build order. -/
import Derived.Test.YtmooecbdpfhnlaaGreatJ25
import Derived.Test.YtmooecbdpfhnlaaGreatJ26
import Derived.Test.YtmooecbdpfhnlaaGreatJ15
import Derived.Laws.BytesArg
import Derived.Test.YtmooecbdpfhnlaaGreatJ1
import Derived.Test.YtmooecbdpfhnlaaGreatJ14
import Derived.Test.YtmooecbdpfhnlaaGreatJ13
import Derived.Test.YtmooecbdpfhnlaaGreatJ22
import Derived.Test.YtmooecbdpfhnlaaGreatJ21
/- The contracts of the program's bytesOf, keyOf, newOutcomeSet. -/
namespace Go.Proofs.YtmooecbdpfhnlaaGreat
open Go.RowKit

theorem info_u8 : (Tryz.prog.info? 5).map (fun i => (i.zero, i.size, i.bytes)) = some (some (.int .u8 0), 1, 1) := by kernel_rfl
/-- A slice of bytes of the call's own. -/
def OwnU (w : World) (B : Nat) (a : Option Addr) (n c : Nat) (us : List Int) : Prop := w.ownsRow B 5 1 (.slice a n c) n (us.map (Value.int .u8)) ∧ n ≤ 1048576
theorem make_bytes (n : Nat) (h : n ≤ 1048576) (w : World) : (Instr.makeSlice 22 (.int .i64 (n : Int)) (.int .i64 (n : Int))).run Tryz.prog w = .ok (.slice (some ⟨w.heap.size, 0, none⟩) n n) (w.alloc (.cells (madeCells #[.int .u8 0] n) 5)) :=
  run_make_row' 22 5 (.int .u8 0) 1 Tryz.underlying22 info_u8 rfl .i64 .i64 n (by omega) (by omega) w
theorem own_madeU (w : World) (n : Nat) (h : n ≤ 1048576) : OwnU (w.alloc (.cells (madeCells #[.int .u8 0] n) 5)) w.heap.size (some ⟨w.heap.size, 0, none⟩) n n (List.replicate n 0) := by
  have e : (madeCells #[Value.int .u8 0] n).toList = (List.replicate n (0 : Int)).map (Value.int .u8) := by
    rw [toList_madeCells_one]; simp
  have hs : (madeCells #[Value.int .u8 0] n).size = n := by rw [← Array.length_toList, e]; simp
  refine ⟨⟨by simp, .inr ⟨w.heap.size, n, madeCells #[.int .u8 0] n, rfl, Nat.le_refl _, World.alloc_heap_new w _, Nat.le_refl _, by unfold maxLen; omega, by rw [hs, Nat.mul_one], ?_⟩⟩, h⟩
  rw [e, List.take_of_length_le (by simp)]
section
variable {w : World} {B g n c k : Nat} {us : List Int}
theorem OwnU.len {a : Option Addr} (h : OwnU w B a n c us) : us.length = n := by have := h.1.1; simpa using this
theorem OwnU.put (h : OwnU w B (some ⟨g, 0, none⟩) n c us) (k : Nat) (z : Int) : OwnU (w.setCell ⟨g, k, none⟩ (.int .u8 z)) B (some ⟨g, 0, none⟩) n c (us.set k z) := by
  refine ⟨?_, h.2⟩
  rw [List.map_set]; exact (h.1.stored k _).1
theorem OwnU.cell (h : OwnU w B (some ⟨g, 0, none⟩) n c us) (hk : k < n) : w.cell? ⟨g, k, none⟩ = some (.int .u8 (us.getD k 0)) := by
  have hl := h.len
  rw [h.1.cellAt k (by omega)]
  simp [List.getD_eq_getElem?_getD, List.getElem?_eq_getElem (show k < us.length by omega)]
theorem OwnU.frozen (h : OwnU w B (some ⟨g, 0, none⟩) n c us) (k : Nat) : w.frozen? ⟨g, k, none⟩ = false := by
  rcases h.1.2 with ⟨e, _⟩ | ⟨g', cap, cur, e, _, hg, _⟩
  · cases e
  · injection e with e
    injection e with e
    injection e with e
    subst e
    simp [World.frozen?, hg]
end
theorem wrap_u8 {z : Int} (h0 : 0 ≤ z) (h1 : z ≤ 255) : IntKind.u8.wrap z = z := by
  unfold IntKind.wrap
  simp [IntKind.bits, IntKind.signed]
  omega
/-- The first k are laid. -/
def bytesTo (zs : List Int) (n k : Nat) : List Int := zs.take k ++ List.replicate (n - k) 0
theorem bytesTo_succ {zs : List Int} {n k : Nat} {z : Int} (hl : zs.length = n) (hk : k < n) (hz : Hid (z = zs.getD k 0)) : (bytesTo zs n k).set k z = bytesTo zs n (k + 1) := by
  have e : zs[k]? = some z := by rw [hz.out, List.getD_eq_getElem?_getD, List.getElem?_eq_getElem (by omega)]; simp
  unfold bytesTo
  apply List.ext_getElem?
  intro i
  rw [List.getElem?_set]
  simp only [List.length_append, List.length_take, List.length_replicate, List.getElem?_append, List.getElem?_replicate, List.getElem?_take]
  by_cases hi : k = i
  · subst hi
    rw [if_pos rfl, if_pos (by omega), if_pos (by omega), if_pos (by omega)]
    exact e.symm
  · rw [if_neg hi]
    by_cases h1 : i < k
    · rw [if_pos (by omega), if_pos h1, if_pos (by omega), if_pos (by omega)]
    · rw [if_neg (by omega), if_neg (show ¬ i < min (k + 1) zs.length by omega)]
      by_cases h2 : i - min k zs.length < n - k
      · rw [if_pos h2, if_pos (by omega)]
      · rw [if_neg h2, if_neg (by omega)]
set_option maxHeartbeats 1600000 in
theorem bytesOf_any (a : Option Addr) (n c : Nat) (zs : List Int) (w : World) (h : Ints w a n zs) (hz : ∀ z ∈ zs, 0 ≤ z ∧ z ≤ 255) (hn : n ≤ 1000) :
    Calls Tryz.prog 99 #[.slice a n c] w fun e w' => e = .returned (.string (strOfNums zs)) ∧ Below w.heap.size w w' := by
  have HL := Lib.hid h.1
  have HZ := Lib.hid hz
  have HI := Lib.hid h
  have hmk := fun w => make_bytes n (by omega) w
  have HO0 := Lib.hid (own_madeU w n (by omega))
  have hb0 : Below w.heap.size w (w.alloc (.cells (madeCells #[.int .u8 0] n) 5)) := (Below.refl _ _).alloc (Nat.le_refl _) _
  have HBB := Lib.hid hb0
  clear h hz hb0
  go_enter Tryz.func99, Tryz.ntmps99
  go_wp2_with fail
  go_loopw [11] (fun i wr => ∃ k : Nat, k ≤ n ∧ i = .int .i64 (k : Int) ∧ OwnU wr w.heap.size (some ⟨w.heap.size, 0, none⟩) n n (bytesTo zs n k) ∧ Below w.heap.size w wr) (fun i _ => n - (intOf i).toNat)
  case atStart => exact ⟨0, Nat.zero_le _, rfl, by simpa [bytesTo] using HO0.out, HBB.out⟩
  case round =>
    clear HO0 HBB hmk
    obtain ⟨k, hk, rfl, hown, hbel⟩ := hrel
    by_cases hlt : k < n
    · obtain ⟨b, o, z, rfl, hb, hz, hin, hc⟩ := (HI.out.below hbel).at_ hlt
      have hzz := HZ.out z (by rw [hz.out]; exact getD_mem (by rw [HL.out]; exact hlt))
      have hw8 := wrap_u8 hzz.1 hzz.2
      have hcell := hown.cell hlt
      have hfr := hown.frozen k
      have hput := hown.put k z
      rw [bytesTo_succ HL.out hlt hz] at hput
      have HP := Lib.hid hput
      have HB := Lib.hid (below_set hbel (b := w.heap.size) (j := k) (Nat.le_refl _) (.int .u8 z))
      clear hput hown hbel hz hin hb hzz
      go_wp2
      go_roundw
      case rel => exact ⟨k + 1, by omega, by go_num, HP.out, HB.out⟩
      case measure => simp [intOf]; omega
    · obtain rfl : n = k := by omega
      have hcv := run_convert_bytes_arg (P := Tryz.prog) wr 22 5 Tryz.underlying22 Tryz.underlying5 w.heap.size 0 n n zs HL.out (fun i hi => by
        rw [Nat.zero_add, hown.cell hi]
        simp [bytesTo, List.take_of_length_le (show zs.length ≤ n by rw [HL.out]; exact Nat.le_refl _)]) 9 Tryz.underlying9
      clear hown
      go_wp2
      go_ret
      exact ⟨rfl, hbel⟩
/-- The key of an outcome. -/
def keyO (o : Oc) : OKey := (strOfNums o.1, o.2.1, o.2.2)
theorem str_inj {xs ys : List Int} (hx : ∀ z ∈ xs, 0 ≤ z ∧ z ≤ 255) (hy : ∀ z ∈ ys, 0 ≤ z ∧ z ≤ 255) (h : strOfNums xs = strOfNums ys) : xs = ys := by
  have e := congrArg (fun s : ByteArray => s.data.toList) h
  simp only [strOfNums_data] at e
  have hl : xs.length = ys.length := by have := congrArg List.length e; simpa using this
  apply List.ext_getElem hl
  intro i h1 h2
  have ei := congrArg (fun l => l[i]?) e
  simp only [List.getElem?_map, List.getElem?_eq_getElem h1, List.getElem?_eq_getElem h2, Option.map_some, Option.some.injEq] at ei
  have a := hx _ (List.getElem_mem h1)
  have b := hy _ (List.getElem_mem h2)
  have en := congrArg UInt8.toNat ei
  simp only [UInt8.toNat_ofNat'] at en
  omega
/-- Values that are bytes. -/
def ByteO (o : Oc) : Prop := ∀ z ∈ o.1, 0 ≤ z ∧ z ≤ 255
theorem key_inj {o o' : Oc} (h : ByteO o) (h' : ByteO o') (e : keyO o = keyO o') : o = o' := by
  obtain ⟨a, b, c⟩ := o
  obtain ⟨a', b', c'⟩ := o'
  simp only [keyO, Prod.mk.injEq] at e
  have := str_inj h h' e.1
  simp only at this
  rw [this, e.2.1, e.2.2]
set_option maxHeartbeats 1600000 in
theorem keyOf_any (E : Nat) (v : Option Addr) (m d : Nat) (en co : Int) (o : Oc) (w : World) (h : OcOf w E ⟨(v, m, d), en, co⟩ o) (hz : ByteO o) (hm : m ≤ 1000) :
    Calls Tryz.prog 142 #[.agg #[.slice v m d, .int .i64 en, .int .i64 co]] w fun e w' => e = .returned (okV (keyO o)) ∧ Below w.heap.size w w' := by
  obtain ⟨h1, h2, _, _, ho⟩ := h
  simp only [] at h1 h2 ho
  have HI := Lib.hid ho.ints
  have HZ := Lib.hid hz
  have HE : Hid (okV (keyO o) = .agg #[.string (strOfNums o.1), .int .i64 en, .int .i64 co]) := Lib.hid (by rw [h1, h2]; rfl)
  rw [HE.out]
  clear h1 h2 ho hz HE
  obtain ⟨wa, HW⟩ : ∃ wa, Hid (wa = (w.alloc (.cells #[.slice v m d, .int .i64 en, .int .i64 co] 43)).alloc (.cells #[.string ⟨#[]⟩, .int .i64 0, .int .i64 0] 187)) := ⟨_, rfl⟩
  have B0 : Blk wa w.heap.size 43 [.slice v m d, .int .i64 en, .int .i64 co] := by rw [HW.out]; exact (Blk.new w _ _).alloc _
  have B1 : Blk wa (w.heap.size + 1) 187 [.string ⟨#[]⟩, .int .i64 0, .int .i64 0] := by rw [HW.out]; simpa using Blk.new (w.alloc (.cells #[.slice v m d, .int .i64 en, .int .i64 co] 43)) 187 [.string ⟨#[]⟩, .int .i64 0, .int .i64 0]
  have hba : Below w.heap.size w wa := by rw [HW.out]; exact ((Below.refl _ _).alloc (Nat.le_refl _) _).alloc (by simp) _
  have t0 := B0.cell (j := 0) rfl
  have t1 := B0.cell (j := 1) rfl
  have t2 := B0.cell (j := 2) rfl
  have HB0 := Lib.hid B0
  have HB1 := Lib.hid B1
  have HBA := Lib.hid hba
  obtain ⟨S, HS⟩ : ∃ S, Hid (strOfNums o.1 = S) := ⟨_, rfl⟩
  rw [HS.out]
  have HC : Hid (∀ w', Below wa.heap.size wa w' → Calls Tryz.prog 99 #[.slice v m d] w' fun e w'' => e = .returned (.string S) ∧ Below w'.heap.size w' w'') := Lib.hid (fun w' hb => by rw [← HS.out]; exact bytesOf_any v m d o.1 w' ((HI.out.below hba).below hb) HZ.out hm)
  clear B0 B1 hba
  go_enter Tryz.func142, Tryz.ntmps142
  go_wp2_with fail
  rw [← HW.out]
  have hd : Below wa.heap.size wa wa.drew := ⟨rfl, rfl, rfl, Nat.le_refl _, fun _ _ => rfl⟩
  have HD := Lib.hid hd
  go_region_with (go_at_call 99; refine (HC.out _ HD.out).mono ?_; rintro e z1 ⟨rfl, hz1⟩; have hz := HD.out.trans (hz1.mono HD.out.size); have X0 := HB0.out.below hz HB0.out.lt; have X1 := HB1.out.below hz HB1.out.lt; have x1 := X0.cell (j := 1) rfl; have x2 := X0.cell (j := 2) rfl; have y0 := X1.cell (j := 0) rfl; have y1 := X1.cell (j := 1) rfl; have y2 := X1.cell (j := 2) rfl; have f0 := X1.frozen 0; have f1 := X1.frozen 1; have f2 := X1.frozen 2; have Z3 := (((X1.set (j := 0) (.string S)).set (j := 1) (.int .i64 en)).set (j := 2) (.int .i64 co)); have r0 := Z3.cell (j := 0) rfl; have r1 := Z3.cell (j := 1) rfl; have r2 := Z3.cell (j := 2) rfl; have HF := Lib.hid (below_set (below_set (below_set (HBA.out.trans (hz.mono HBA.out.size)) (b := w.heap.size + 1) (j := 0) (by omega) (.string S)) (b := w.heap.size + 1) (j := 1) (by omega) (.int .i64 en)) (b := w.heap.size + 1) (j := 2) (by omega) (.int .i64 co)); clear X0 X1 Z3 hz hz1)
  all_goals
    go_wp2
    refine bodyPost_ret (v := .agg #[.string S, .int .i64 en, .int .i64 co]) (by simp [results, Tryz.results142, go_sem, r0, r1, r2]) rfl ?_
    exact ⟨rfl, HF.out⟩
end Go.Proofs.YtmooecbdpfhnlaaGreat
/- The different ones of a list, each once, in the order in which they come; what is bound of an input; the most of them: plain mathematics. -/
namespace Go.Proofs.YtmooecbdpfhnlaaGreat
section
variable {α : Type} [DecidableEq α]
/-- One more, if it is new. -/
def addNew (acc : List α) (x : α) : List α := if x ∈ acc then acc else acc ++ [x]
/-- The different ones, in the order in which they come. -/
def diffL (l : List α) : List α := l.foldl addNew []
theorem diffL_snoc (l : List α) (x : α) : diffL (l ++ [x]) = addNew (diffL l) x := by simp [diffL, List.foldl_append]
theorem mem_addNew {acc : List α} {x y : α} : y ∈ addNew acc x ↔ y ∈ acc ∨ y = x := by
  unfold addNew
  split
  · constructor
    · exact .inl
    · rintro (h | rfl)
      · exact h
      · assumption
  · simp
theorem mem_diffL {x : α} : ∀ l : List α, x ∈ diffL l ↔ x ∈ l := by
  have key : ∀ (l acc : List α), x ∈ l.foldl addNew acc ↔ x ∈ acc ∨ x ∈ l := by
    intro l
    induction l with
    | nil => intro acc; simp
    | cons y l ih =>
      intro acc
      rw [List.foldl_cons, ih, mem_addNew, List.mem_cons]
      constructor
      · rintro ((h | h) | h)
        · exact .inl h
        · exact .inr (.inl h)
        · exact .inr (.inr h)
      · rintro (h | h | h)
        · exact .inl (.inl h)
        · exact .inl (.inr h)
        · exact .inr h
  intro l
  rw [diffL, key]
  simp
theorem addNew_nodup {acc : List α} {x : α} (h : acc.Nodup) : (addNew acc x).Nodup := by
  unfold addNew
  split
  · exact h
  · rename_i hx
    rw [List.nodup_append]
    refine ⟨h, by simp, fun a ha b hb => ?_⟩
    have : b = x := by simpa using hb
    subst this
    exact fun e => hx (e ▸ ha)
theorem diffL_nodup (l : List α) : (diffL l).Nodup := by
  have key : ∀ (l acc : List α), acc.Nodup → (l.foldl addNew acc).Nodup := by
    intro l
    induction l with
    | nil => exact fun _ h => h
    | cons y l ih => exact fun acc h => ih _ (addNew_nodup h)
  exact key l [] List.nodup_nil
theorem nodup_sub_len {l : List α} : ∀ {l' : List α}, l.Nodup → (∀ x ∈ l, x ∈ l') → l.length ≤ l'.length := by
  induction l with
  | nil => intros; simp
  | cons a l ih =>
    intro l' hn hs
    obtain ⟨h1, h2⟩ := List.nodup_cons.1 hn
    have ha := hs a (List.mem_cons_self)
    have := ih (l' := l'.erase a) h2 (fun x hx => (List.mem_erase_of_ne (fun e => h1 (by rw [← e]; exact hx))).2 (hs x (List.mem_cons_of_mem _ hx)))
    have hl := List.length_erase_of_mem ha
    have hp : 0 < l'.length := List.length_pos_of_mem ha
    simp only [List.length_cons]
    omega
theorem diffL_len_sub {l l' : List α} (h : ∀ x ∈ l, x ∈ l') : (diffL l).length ≤ (diffL l').length :=
  nodup_sub_len (diffL_nodup l) (fun x hx => (mem_diffL l').2 (h x ((mem_diffL l).1 hx)))
theorem diffL_len (l : List α) : (diffL l).length ≤ l.length := nodup_sub_len (diffL_nodup l) (fun _ hx => (mem_diffL l).1 hx)
end
/-- What is bound of an input: nought where it is free. -/
def boundL : List Bool → List Int → List Int
  | b :: bs, z :: zs => (if b then 0 else z) :: boundL bs zs
  | [], zs => zs
  | _, [] => []
theorem boundL_len : ∀ (fs : List Bool) (zs : List Int), (boundL fs zs).length = zs.length
  | [], zs => by cases zs <;> rfl
  | b :: bs, [] => rfl
  | b :: bs, z :: zs => by rw [boundL, List.length_cons, boundL_len bs zs, List.length_cons]
theorem boundL_getD : ∀ (fs : List Bool) (zs : List Int) (i : Nat), (boundL fs zs).getD i 0 = if fs.getD i false then 0 else zs.getD i 0
  | [], zs, i => by cases zs <;> simp [boundL]
  | b :: bs, [], i => by simp [boundL]
  | b :: bs, z :: zs, 0 => by simp [boundL]
  | b :: bs, z :: zs, i + 1 => by
    have := boundL_getD bs zs i
    rw [boundL, List.getD_cons_succ, List.getD_cons_succ, List.getD_cons_succ]
    exact this
/-- Is an input like another one, but where it is free? (the model's own words) -/
def fitsB (L : Nat) (fr : List Bool) (a b : List Int) : Bool := (List.range a.length).all (fun i => decide (a.getD i 0 = b.getD i 0) || (decide (L ≤ i) && fr.getD (i - L) false))
theorem fitsB_iff {L : Nat} {fr : List Bool} {a b : List Int} : fitsB L fr a b = true ↔ ∀ i, i < a.length → a.getD i 0 = b.getD i 0 ∨ (L ≤ i ∧ fr.getD (i - L) false = true) := by
  simp [fitsB, List.all_eq_true]
theorem all_getD {L i : Nat} {fr : List Bool} : (List.replicate L false ++ fr).getD i false = (decide (L ≤ i) && fr.getD (i - L) false) := by
  by_cases h : i < L
  · rw [List.getD_eq_getElem?_getD, List.getElem?_append_left (by simpa using h), List.getElem?_replicate]
    simp [h]
    omega
  · rw [List.getD_eq_getElem?_getD, List.getElem?_append_right (by simp; omega)]
    simp [List.getD_eq_getElem?_getD, show L ≤ i by omega]
theorem ext_getD {a b : List Int} (hl : a.length = b.length) (h : ∀ i, i < a.length → a.getD i 0 = b.getD i 0) : a = b := by
  apply List.ext_getElem hl
  intro i h1 h2
  have := h i h1
  simpa [List.getD_eq_getElem?_getD, List.getElem?_eq_getElem h1, List.getElem?_eq_getElem h2] using this
theorem fits_bound {L : Nat} {fr : List Bool} {a b : List Int} (hl : a.length = b.length) : fitsB L fr a b = true ↔ boundL (List.replicate L false ++ fr) a = boundL (List.replicate L false ++ fr) b := by
  rw [fitsB_iff]
  constructor
  · intro h
    refine ext_getD (by rw [boundL_len, boundL_len, hl]) (fun i hi => ?_)
    rw [boundL_len] at hi
    rw [boundL_getD, boundL_getD]
    split
    · rfl
    · rename_i hf
      rcases h i hi with h | ⟨h1, h2⟩
      · exact h
      · exact absurd (by rw [all_getD, h2]; simp [h1]) hf
  · intro h i hi
    have e := congrArg (fun l => l.getD i 0) h
    simp only [boundL_getD] at e
    by_cases hf : (List.replicate L false ++ fr).getD i false = true
    · rw [all_getD] at hf
      simp only [Bool.and_eq_true, decide_eq_true_eq] at hf
      exact .inr hf
    · rw [if_neg hf, if_neg hf] at e
      exact .inl e
/-- The most, over the first k. -/
def mostTo (f : Nat → Nat) : Nat → Nat
  | 0 => 0
  | k + 1 => max (mostTo f k) (f k)
theorem mostTo_le {f : Nat → Nat} {m : Nat} : ∀ k, (∀ i, i < k → f i ≤ m) → mostTo f k ≤ m
  | 0, _ => Nat.zero_le _
  | k + 1, h => by
    have := mostTo_le k (fun i hi => h i (by omega))
    have := h k (by omega)
    rw [mostTo]; omega
theorem le_mostTo {f : Nat → Nat} : ∀ k i, i < k → f i ≤ mostTo f k
  | 0, i, h => absurd h (by omega)
  | k + 1, i, h => by
    rw [mostTo]
    rcases Nat.lt_or_ge i k with h' | h'
    · have := le_mostTo (f := f) k i h'; omega
    · obtain rfl : i = k := by omega
      omega
end Go.Proofs.YtmooecbdpfhnlaaGreat
/- The contracts of the model's l8In, l8Different, l8Fits, l8All. -/
namespace Go.Proofs.YtmooecbdpfhnlaaGreat
open Go.RowKit

theorem likeB_eq (o o' : Oc) : likeB o.1 o'.1 o.2.1 o.2.2 o'.2.1 o'.2.2 = decide (o = o') := by
  obtain ⟨a, b, c⟩ := o
  obtain ⟨a', b', c'⟩ := o'
  rw [likeB, Bool.eq_iff_iff]
  simp [Prod.ext_iff]
theorem belA' {w w' : World} {o : Obj} (h : Below w.heap.size w w') : Below w.heap.size w (w'.alloc o) := h.alloc h.size _
/-- The first k are others. -/
def NoneO (os : List Oc) (o : Oc) (k : Nat) : Prop := ∀ i, i < k → oAt os i ≠ o
theorem NoneO.succ {os : List Oc} {o : Oc} {k : Nat} (h : NoneO os o k) (hk : oAt os k ≠ o) : NoneO os o (k + 1) := by
  intro i hi
  rcases Nat.lt_or_ge i k with hlt | hge
  · exact h i hlt
  · obtain rfl : i = k := by omega
    exact hk
theorem noneO_all {os : List Oc} {o : Oc} (h : NoneO os o os.length) : ¬ o ∈ os := fun hm => by
  obtain ⟨i, hi, rfl⟩ := List.getElem_of_mem hm
  exact h i hi (by simp [oAt, List.getD_eq_getElem?_getD, List.getElem?_eq_getElem hi])
theorem diff_step {os : List Oc} {k : Nat} (hk : k < os.length) : diffL (os.take (k + 1)) = addNew (diffL (os.take k)) (oAt os k) := by
  rw [← diffL_snoc]
  congr 1
  rw [List.take_add_one, List.getElem?_eq_getElem hk]
  simp [oAt, List.getD_eq_getElem?_getD, List.getElem?_eq_getElem hk]
set_option maxHeartbeats 1600000 in
theorem l8In_any (B E E' : Nat) (a : Option Addr) (n c : Nat) (rs : List OcR) (os : List Oc) (v : Option Addr) (m d : Nat) (en co : Int) (oc : Oc) (w : World) (h : OwnO w B E a n c rs os) (ho : OcOf w E' ⟨(v, m, d), en, co⟩ oc) :
    Calls Tryz.prog 114 #[.slice a n c, .agg #[.slice v m d, .int .i64 en, .int .i64 co]] w fun e w' => e = .returned (.bool (decide (oc ∈ os))) ∧ Below w.heap.size w w' := by
  obtain ⟨R, HR⟩ : ∃ R, Hid (decide (oc ∈ os) = R) := ⟨_, rfl⟩
  rw [HR.out]
  have hn := h.2.1
  have HL := Lib.hid h.2.2.1
  obtain ⟨wa, HW⟩ : ∃ wa, Hid (wa = w.alloc (.cells #[.slice v m d, .int .i64 en, .int .i64 co] 43)) := ⟨_, rfl⟩
  have BX : Blk wa w.heap.size 43 [.slice v m d, .int .i64 en, .int .i64 co] := by rw [HW.out]; exact Blk.new w _ _
  have hba : Below w.heap.size w wa := by rw [HW.out]; exact belA' (Below.refl _ _)
  have HO := Lib.hid (h.below hba)
  have HC := Lib.hid (ho.below hba)
  have HBA := Lib.hid hba
  have HX := Lib.hid BX
  clear h ho hba BX
  go_enter Tryz.func114, Tryz.ntmps114
  go_wp2_with fail
  rw [← HW.out]
  go_loopw [5] (fun i wr => ∃ k : Nat, k ≤ n ∧ i = .int .i64 (k : Int) ∧ NoneO os oc k ∧ Below wa.heap.size wa wr) (fun i _ => n - (intOf i).toNat)
  case atStart => exact ⟨0, Nat.zero_le _, rfl, fun i hi => absurd hi (by omega), Below.refl _ _⟩
  case round =>
    obtain ⟨k, hk, rfl, hno, hbel⟩ := hrel
    by_cases hlt : k < n
    · obtain ⟨g, v1, m1, d1, en1, co1, rfl, hg, hR, hc0, hc1, hc2, hoc⟩ := (HO.out.below hbel).at_ hlt
      have HOC := Lib.hid (HC.out.below hbel)
      have hX := HX.out.below hbel HX.out.lt
      have x0 := lat_cell hX.lt (hX.cell (j := 0) rfl)
      have x1 := lat_cell hX.lt (hX.cell (j := 1) rfl)
      have x2 := lat_cell hX.lt (hX.cell (j := 2) rfl)
      have y0 := lat_cell hg hc0
      have y1 := lat_cell hg hc1
      have y2 := lat_cell hg hc2
      obtain ⟨q, HQ⟩ : ∃ q, Hid (decide (oAt os k = oc) = q) := ⟨_, rfl⟩
      have HCL : Hid (∀ p : Lat wr, Calls Tryz.prog 157 #[.agg #[.slice v1 m1 d1, .int .i64 en1, .int .i64 co1], .agg #[.slice v m d, .int .i64 en, .int .i64 co]] p.wd fun e w' => e = .returned (.bool q) ∧ Below p.wd.heap.size p.wd w') := Lib.hid (fun p => by
        have e1 := hoc.out
        have e2 := HOC.out
        have := specLike_any (v1, m1, d1) (v, m, d) en1 co1 en co (oAt os k).1 oc.1 p.wd (e1.2.2.2.2.ints.below p.ok) (e2.2.2.2.2.ints.below p.ok)
        obtain ⟨a1, a2, _⟩ := e1
        obtain ⟨b1, b2, _⟩ := e2
        simp only [] at a1 a2 b1 b2
        rw [a1, a2, b1, b2, likeB_eq, HQ.out] at this
        rw [a1, a2, b1, b2]
        exact this)
      clear hoc HOC hX hc0 hc1 hc2 hg hR
      cases q with
      | true =>
        have HF : Hid (true = R) := Lib.hid (by
          have e : oAt os k = oc := by have := HQ.out; simpa using this
          rw [← HR.out, ← e]
          exact (decide_eq_true (oAt_mem (by rw [HL.out]; exact hlt))).symm)
        clear HQ HR
        go_wp2
        refine wp_region_lat (by kernel_rfl) (by kernel_rfl) ?_
        repeat (go_big_quiet_step ((go_at_call 157; exact lat_calls (HCL.out _))))
        refine wpQuiet_nil ?_
        intro _ hw'
        obtain ⟨⟨wq, hb⟩, hw''⟩ := hw'
        subst hw''
        have hbf := HBA.out.trans ((hbel.trans (hb.mono hbel.size)).mono HBA.out.size)
        clear x0 x1 x2 y0 y1 y2 HCL hb
        go_wp2
        go_ret
        exact ⟨ret_bool HF.out, hbf⟩
      | false =>
        have hno' := hno.succ (fun e => by have := HQ.out; simp [e] at this)
        clear HQ
        go_wp2
        refine wp_region_lat (by kernel_rfl) (by kernel_rfl) ?_
        repeat (go_big_quiet_step ((go_at_call 157; exact lat_calls (HCL.out _))))
        refine wpQuiet_nil ?_
        intro _ hw'
        obtain ⟨⟨wq, hb⟩, hw''⟩ := hw'
        subst hw''
        have hbf := hbel.trans (hb.mono hbel.size)
        clear x0 x1 x2 y0 y1 y2 HCL hb hbel
        go_wp2
        go_roundw
        case rel => exact ⟨k + 1, by omega, by go_num, hno', hbf⟩
        case measure => simp [intOf]; omega
    · obtain rfl : n = k := by omega
      have hbf := HBA.out.trans (hbel.mono HBA.out.size)
      have HF : Hid (false = R) := Lib.hid (by rw [← HR.out]; exact (decide_eq_false (noneO_all (by rw [HL.out]; exact hno))).symm)
      clear hno hbel HR
      go_wp2
      go_ret
      exact ⟨ret_bool HF.out, hbf⟩
/-- What a function that makes a slice of the Outcomes os leaves (their numbers' rows lie from E on). -/
def MadeO (w : World) (E : Nat) (os : List Oc) (e : Ending) (w' : World) : Prop :=
  ∃ a n c rs, e = .returned (.slice a n c) ∧ OwnO w' w.heap.size E a n c rs os ∧ Below w.heap.size w w'
set_option maxHeartbeats 1600000 in
theorem l8Different_any (B E : Nat) (a : Option Addr) (n c : Nat) (rs : List OcR) (os : List Oc) (w : World) (h : OwnO w B E a n c rs os) :
    Calls Tryz.prog 74 #[.slice a n c] w (MadeO w E (diffL os)) := by
  have hn := h.2.1
  have HL := Lib.hid h.2.2.1
  have HO := Lib.hid h
  clear h
  go_enter Tryz.func74, Tryz.ntmps74
  go_wp2_with fail
  go_loopw [3, 4] (fun v i wr => ∃ (k m d : Nat) (ao : Option Addr) (rs' : List OcR), k ≤ n ∧ m ≤ k ∧ i = .int .i64 (k : Int) ∧ v = .slice ao m d ∧ OwnO wr w.heap.size E ao m d rs' (diffL (os.take k)) ∧ Below w.heap.size w wr) (fun _ i _ => n - (intOf i).toNat)
  case atStart => exact ⟨0, 0, 0, _, [], by omega, by omega, rfl, rfl, ownO_empty w _ _ (Nat.le_refl _), (Below.refl _ _).alloc (Nat.le_refl _) _⟩
  case round =>
    obtain ⟨k, m, d, ao, rs', hk, hmk, rfl, rfl, hown, hbel⟩ := hrel
    by_cases hlt : k < n
    · have hoo := HO.out.below hbel
      obtain ⟨g, v1, m1, d1, en1, co1, rfl, hg, hR, hc0, hc1, hc2, hoc⟩ := hoo.at_ hlt
      have HDS := Lib.hid (diff_step (os := os) (k := k) (by rw [HL.out]; exact hlt))
      obtain ⟨q, HQ⟩ : ∃ q, Hid (decide (oAt os k ∈ diffL (os.take k)) = q) := ⟨_, rfl⟩
      have HIN := Lib.hid (l8In_any w.heap.size E E ao m d rs' (diffL (os.take k)) v1 m1 d1 en1 co1 (oAt os k) wr hown hoc.out)
      rw [HQ.out] at HIN
      clear hoo hR
      cases q with
      | true =>
        have HE : Hid (diffL (os.take (k + 1)) = diffL (os.take k)) := Lib.hid (by rw [HDS.out, addNew, if_pos (by have := HQ.out; simpa using this)])
        clear HDS HQ
        go_wp2_with fail
        refine HIN.out.mono ?_
        rintro e w1 ⟨rfl, hb⟩
        have hown := hown.below hb
        have hbel := hbel.trans (hb.mono hbel.size)
        rw [← HE.out] at hown
        clear hb HIN hoc hc0 hc1 hc2 hg
        go_wp2
        go_roundw
        case rel => exact ⟨k + 1, m, d, ao, rs', by omega, by omega, by go_num, rfl, hown, hbel⟩
        case measure => simp [intOf]; omega
      | false =>
        have HE : Hid (diffL (os.take (k + 1)) = diffL (os.take k) ++ [oAt os k]) := Lib.hid (by rw [HDS.out, addNew, if_neg (by have := HQ.out; simpa using this)])
        clear HDS HQ
        go_wp2_with fail
        refine HIN.out.mono ?_
        rintro e w1 ⟨rfl, hb⟩
        have hown := hown.below hb
        have hbel := hbel.trans (hb.mono hbel.size)
        have hs := hbel.size
        have hoo := HO.out.below hbel
        have HOC := Lib.hid (hoc.out.below hb)
        have hc0 := (hb.cell hg).trans hc0
        have hc1 := (hb.cell hg).trans hc1
        have hc2 := (hb.cell hg).trans hc2
        clear hb HIN hoc hg
        go_wp2_with (at_builtin; refine wpList_pushO _ rfl _ _ rfl w.heap.size E _ _ _ rs' (diffL (os.take k)) rfl (hown.alloc _) w1.heap.size v1 m1 d1 en1 co1 (oAt os k) rfl (by simp) (by simp) (by simp) (HOC.out.below (belA' (Below.refl _ _))) (by omega) (by simp; omega) ?_)
        intro a8 c8 w8 hown8 hg8
        have hb8 : Below w.heap.size w w8 := (hbel.alloc hs _).grown hg8.1 (by simp; omega) (fun g e => (hown.block g e).1)
        rw [← HE.out] at hown8
        clear hown hbel hg8 hc0 hc1 hc2 HOC hoo
        go_wp2
        go_roundw
        case rel => exact ⟨k + 1, m + 1, c8, a8, _, by omega, by omega, by go_num, rfl, hown8, hb8⟩
        case measure => simp [intOf]; omega
    · obtain rfl : n = k := by omega
      rw [List.take_of_length_le (by rw [HL.out]; exact Nat.le_refl _)] at hown
      go_wp2
      go_ret
      exact ⟨_, _, _, _, rfl, hown, hbel⟩
end Go.Proofs.YtmooecbdpfhnlaaGreat
/- The contracts of the model's l8Fits, l8All. -/
namespace Go.Proofs.YtmooecbdpfhnlaaGreat
open Go.RowKit

/-- So far it fits. -/
def FitTo (L : Nat) (fr : List Bool) (a b : List Int) (k : Nat) : Prop := ∀ i, i < k → a.getD i 0 = b.getD i 0 ∨ (L ≤ i ∧ fr.getD (i - L) false = true)
theorem FitTo.succ {L : Nat} {fr : List Bool} {a b : List Int} {k : Nat} (h : FitTo L fr a b k) (hk : a.getD k 0 = b.getD k 0 ∨ (L ≤ k ∧ fr.getD (k - L) false = true)) : FitTo L fr a b (k + 1) := by
  intro i hi
  rcases Nat.lt_or_ge i k with hlt | hge
  · exact h i hlt
  · obtain rfl : i = k := by omega
    exact hk
theorem fits_bad {L : Nat} {fr : List Bool} {a b : List Int} {k : Nat} (hk : k < a.length) (h : ¬ (a.getD k 0 = b.getD k 0 ∨ (L ≤ k ∧ fr.getD (k - L) false = true))) : fitsB L fr a b = false := by
  rw [← Bool.not_eq_true]
  exact fun h' => h (fitsB_iff.1 h' k hk)
set_option maxHeartbeats 1600000 in
theorem l8Fits_any (a a' a3 : Option Addr) (n c n' c' n3 c3 L : Nat) (zs ys : List Int) (fr : List Bool) (w : World) (h : Ints w a n zs) (h' : Ints w a' n' ys) (h3 : Bools w a3 n3 fr) (hl : n = n') (hf : n ≤ L + n3) :
    Calls Tryz.prog 126 #[.slice a n c, .slice a' n' c', .int .i64 (L : Int), .slice a3 n3 c3] w fun e w' => e = .returned (.bool (fitsB L fr zs ys)) ∧ Below w.heap.size w w' := by
  subst hl
  obtain ⟨R, HR⟩ : ∃ R, Hid (fitsB L fr zs ys = R) := ⟨_, rfl⟩
  rw [HR.out]
  have hn := h.2.1
  have hn3 := h3.2.1
  have HL := Lib.hid h.1
  have H1 := Lib.hid h
  have H2 := Lib.hid h'
  have H3 := Lib.hid h3
  clear h h' h3
  go_enter Tryz.func126, Tryz.ntmps126
  go_wp2
  go_loopw [9] (fun i wr => ∃ k : Nat, k ≤ n ∧ i = .int .i64 (k : Int) ∧ FitTo L fr zs ys k ∧ Below w.heap.size w wr) (fun i _ => n - (intOf i).toNat)
  case atStart => exact ⟨0, Nat.zero_le _, rfl, fun i hi => absurd hi (by omega), Below.refl _ _⟩
  case round =>
    obtain ⟨k, hk, rfl, hft, hbel⟩ := hrel
    by_cases hlt : k < n
    · obtain ⟨b1, o1, x, rfl, hb1, hx, hi1, hc1⟩ := (H1.out.below hbel).at_ hlt
      obtain ⟨b2, o2, y, rfl, hb2, hy, hi2, hc2⟩ := (H2.out.below hbel).at_ hlt
      have hbd : Below w.heap.size w wr.drew := hbel.trans ⟨rfl, rfl, rfl, Nat.le_refl _, fun _ _ => rfl⟩
      have hd : ∀ j, Below w.heap.size w (wr.drewN j) := fun j => hbel.trans ⟨rfl, rfl, rfl, Nat.le_refl _, fun _ _ => rfl⟩
      have HD := Lib.hid hd
      by_cases e : x = y
      · subst e
        have hne : (x != x) = false := by simp
        have hft' := hft.succ (.inl (by rw [← hx.out, ← hy.out]))
        clear hd hbd hx hy hi1 hi2 hb1 hb2
        go_wp2
        go_quiet (fail)
        rename_i nq
        have hbf := HD.out nq
        go_wp2
        go_roundw
        case rel => exact ⟨k + 1, by omega, by go_num, hft', hbf⟩
        case measure => simp [intOf]; omega
      · have hne : (x != y) = true := by simpa using e
        by_cases hkL : k < L
        · have hdl : decide ((k : Int) < (L : Int)) = true := by simp; omega
          have HF : Hid (false = R) := Lib.hid (by rw [← HR.out]; exact (fits_bad (by rw [HL.out]; exact hlt) (fun h => h.elim (fun h => e (by rw [hx.out, hy.out]; exact h)) (fun h => absurd h.1 (by omega)))).symm)
          clear hd hbd hx hy hi1 hi2 hb1 hb2 HR
          go_wp2
          go_quiet (fail)
          rename_i nq
          have hbf := HD.out nq
          go_wp2
          go_ret
          exact ⟨ret_bool HF.out, hbf⟩
        · have hdl : decide ((k : Int) < (L : Int)) = false := by simp; omega
          obtain ⟨t, HT⟩ : ∃ t, Hid (k = L + t) := ⟨k - L, Lib.hid (by omega)⟩
          have ht : t < n3 := by have := HT.out; omega
          obtain ⟨b3, o3, z, rfl, hb3, hz, hc3⟩ := (H3.out.below hbel).at_ ht
          have hw2 : IntKind.i64.wrap ((k : Int) - (L : Int)) = (t : Int) := by rw [IntKind.wrap_i64]; have := HT.out; omega
          have hw3 : wrap64 ((k : Int) - (L : Int)) = (t : Int) := by unfold wrap64; have := HT.out; omega
          have hzz : fr.getD (k - L) false = z := by rw [HT.out, Nat.add_sub_cancel_left]; exact hz.out.symm
          cases z with
          | true =>
            have hft' := hft.succ (.inr ⟨by omega, hzz⟩)
            clear hd hbd hx hy hi1 hi2 hb1 hb2 hb3 hz hzz
            go_wp2
            go_quiet (fail)
            rename_i nq
            have hbf := HD.out nq
            go_wp2
            go_roundw
            case rel => exact ⟨k + 1, by omega, by go_num, hft', hbf⟩
            case measure => simp [intOf]; omega
          | false =>
            have HF : Hid (false = R) := Lib.hid (by rw [← HR.out]; exact (fits_bad (by rw [HL.out]; exact hlt) (fun h => h.elim (fun h => e (by rw [hx.out, hy.out]; exact h)) (fun h => by have := h.2; rw [hzz] at this; cases this))).symm)
            clear hd hbd hx hy hi1 hi2 hb1 hb2 hb3 hz hzz HR
            go_wp2
            go_quiet (fail)
            rename_i nq
            have hbf := HD.out nq
            go_wp2
            go_ret
            exact ⟨ret_bool HF.out, hbf⟩
    · obtain rfl : n = k := by omega
      have HF : Hid (true = R) := Lib.hid (by rw [← HR.out]; exact (fitsB_iff.2 (by rw [HL.out]; exact hft)).symm)
      clear hft HR
      go_wp2
      go_ret
      exact ⟨ret_bool HF.out, hbel⟩
end Go.Proofs.YtmooecbdpfhnlaaGreat
/- The contracts of the model's l8All, l8Right. -/
namespace Go.Proofs.YtmooecbdpfhnlaaGreat
open Go.RowKit

/-- Those that fit, in order. -/
def pickTo (f : Nat → Bool) (os : List Oc) : Nat → List Oc
  | 0 => []
  | k + 1 => if f k then pickTo f os k ++ [oAt os k] else pickTo f os k
theorem pickTo_len (f : Nat → Bool) (os : List Oc) : ∀ k, (pickTo f os k).length ≤ k
  | 0 => Nat.le_refl _
  | k + 1 => by
    have := pickTo_len f os k
    rw [pickTo]
    split
    · simp; omega
    · omega
set_option maxHeartbeats 3200000 in
theorem l8All_any (wd tp : Int) (p1 p2 p3 p4 : Option Addr) (n1 n2 n3 n4 c1 c2 c3 c4 : Nat) (a ao al af : Option Addr) (n c co nl cl nf cf B E : Nat) (rs : List Sl) (css : List (List Int)) (rows : List OcR) (os : List Oc) (zs : List Int) (fr : List Bool) (w : World)
    (hi : IntsSS w a n rs css) (ho : OwnO w B E ao n co rows os) (hl : Ints w al nl zs) (hf : Bools w af nf fr) (hm : ∀ i, i < n → (intsAt css i).length = nl) (hn : nl ≤ n1 + nf) :
    Calls Tryz.prog 84 #[.agg #[.int .i64 wd, .slice p1 n1 c1, .slice p2 n2 c2, .int .i64 tp, .slice p3 n3 c3, .slice p4 n4 c4], .slice a n c, .slice ao n co, .slice al nl cl, .slice af nf cf] w
      (MadeO w E (pickTo (fun i => fitsB n1 fr (intsAt css i) zs) os n)) := by
  obtain ⟨wa, HW⟩ : ∃ wa, Hid (wa = w.alloc (.cells #[.int .i64 wd, .slice p1 n1 c1, .slice p2 n2 c2, .int .i64 tp, .slice p3 n3 c3, .slice p4 n4 c4] 31)) := ⟨_, rfl⟩
  have BX : Blk wa w.heap.size 31 [.int .i64 wd, .slice p1 n1 c1, .slice p2 n2 c2, .int .i64 tp, .slice p3 n3 c3, .slice p4 n4 c4] := by rw [HW.out]; exact Blk.new w _ _
  have hba : Below w.heap.size w wa := by rw [HW.out]; exact belA' (Below.refl _ _)
  have HI := Lib.hid (hi.below hba)
  have HO := Lib.hid (ho.below hba)
  have HL := Lib.hid (hl.below hba)
  have HF := Lib.hid (hf.below hba)
  have HM := Lib.hid hm
  have HBA := Lib.hid hba
  have HX := Lib.hid BX
  have hn6 := hi.2.2.1
  have HSZ : Hid (wa.heap.size = w.heap.size + 1) := Lib.hid (by rw [HW.out]; simp)
  obtain ⟨f, HFF⟩ : ∃ f : Nat → Bool, Hid (f = fun i => fitsB n1 fr (intsAt css i) zs) := ⟨_, rfl⟩
  rw [← HFF.out]
  clear hi ho hl hf hm hba BX
  go_enter Tryz.func84, Tryz.ntmps84
  go_wp2_with fail
  rw [← HW.out]
  go_loopw [11, 12] (fun v i wr => ∃ (k m d : Nat) (av : Option Addr) (rs' : List OcR), k ≤ n ∧ m ≤ k ∧ i = .int .i64 (k : Int) ∧ v = .slice av m d ∧ OwnO wr wa.heap.size E av m d rs' (pickTo f os k) ∧ Below wa.heap.size wa wr) (fun _ i _ => n - (intOf i).toNat)
  case atStart => exact ⟨0, 0, 0, _, [], by omega, by omega, rfl, rfl, by have := ownO_empty wa wa.heap.size E (Nat.le_refl _); simpa [HSZ.out, pickTo] using this, belA' (Below.refl _ _)⟩
  case round =>
    obtain ⟨k, m, d, av, rs', hk, hmk, rfl, rfl, hown, hbel⟩ := hrel
    by_cases hlt : k < n
    · have hX := HX.out.below hbel HX.out.lt
      obtain ⟨b, o, a1, m1, d1, rfl, hb, hr, hc, hI⟩ := (HI.out.below hbel).at_ hlt
      obtain rfl : m1 = nl := by have := HM.out k hlt; have := hI.1; omega
      have y1 := lat_cell hX.lt (hX.cell (j := 1) rfl)
      have z1 := lat_cell hb hc
      obtain ⟨q, HQ⟩ : ∃ q, Hid (f k = q) := ⟨_, rfl⟩
      have HL1 := Lib.hid (HL.out.below hbel)
      have HF1 := Lib.hid (HF.out.below hbel)
      have HCL : Hid (∀ p : Lat wr, Calls Tryz.prog 126 #[.slice a1 m1 d1, .slice al m1 cl, .int .i64 (n1 : Int), .slice af nf cf] p.wd fun e w' => e = .returned (.bool q) ∧ Below p.wd.heap.size p.wd w') := Lib.hid (fun p => by
        rw [← HQ.out, HFF.out]
        exact l8Fits_any a1 al af m1 d1 m1 cl nf cf n1 (intsAt css k) zs fr p.wd (hI.below p.ok) (HL1.out.below p.ok) (HF1.out.below p.ok) rfl hn)
      clear hI hr hX hb hc HL1 HF1
      cases q with
      | true =>
        have HE : Hid (pickTo f os (k + 1) = pickTo f os k ++ [oAt os k]) := Lib.hid (by rw [pickTo, HQ.out, if_pos rfl])
        clear HQ
        go_wp2
        refine wp_region_lat (by kernel_rfl) (by kernel_rfl) ?_
        repeat (go_big_quiet_step ((go_at_call 126; exact lat_calls (HCL.out _))))
        refine wpQuiet_nil ?_
        intro wq hw'
        obtain ⟨⟨wz, hb⟩, hw''⟩ := hw'
        subst hw''
        have hown := hown.below hb
        have hbel := hbel.trans (hb.mono hbel.size)
        have hs := hbel.size
        obtain ⟨g, v1, m2, d2, en1, co1, rfl, hg, hR, hc0, hc1, hc2, hoc⟩ := (HO.out.below hbel).at_ hlt
        clear y1 z1 HCL hb hR
        go_wp2_with (at_builtin; (refine wpList_pushO _ rfl _ _ rfl wa.heap.size E _ _ _ rs' (pickTo f os k) rfl (hown.alloc _) wq.heap.size v1 m2 d2 en1 co1 (oAt os k) rfl (by simp) (by simp) (by simp) (hoc.out.below (belA' (Below.refl _ _))) (by omega) (by simp; omega) ?_))
        intro a8 c8 w8 hown8 hg8
        have hb8 : Below wa.heap.size wa w8 := (hbel.alloc hs _).grown hg8.1 (by simp; omega) (fun g e => (hown.block g e).1)
        rw [← HE.out] at hown8
        clear hown hbel hg8 hc0 hc1 hc2 hoc hg
        go_wp2
        go_roundw
        case rel => exact ⟨k + 1, m + 1, c8, a8, _, by omega, by omega, by go_num, rfl, hown8, hb8⟩
        case measure => simp [intOf]; omega
      | false =>
        have HE : Hid (pickTo f os (k + 1) = pickTo f os k) := Lib.hid (by rw [pickTo, HQ.out]; rfl)
        clear HQ
        go_wp2
        refine wp_region_lat (by kernel_rfl) (by kernel_rfl) ?_
        repeat (go_big_quiet_step ((go_at_call 126; exact lat_calls (HCL.out _))))
        refine wpQuiet_nil ?_
        intro wq hw'
        obtain ⟨⟨wz, hb⟩, hw''⟩ := hw'
        subst hw''
        have hown := hown.below hb
        have hbel := hbel.trans (hb.mono hbel.size)
        rw [← HE.out] at hown
        clear y1 z1 HCL hb
        go_wp2
        go_roundw
        case rel => exact ⟨k + 1, m, d, av, rs', by omega, by omega, by go_num, rfl, hown, hbel⟩
        case measure => simp [intOf]; omega
    · obtain rfl : n = k := by omega
      have hown := hown.base HBA.out.size
      have hbel := HBA.out.trans (hbel.mono HBA.out.size)
      go_wp2
      go_ret
      exact ⟨_, _, _, _, rfl, hown, hbel⟩
set_option maxRecDepth 20000 in
set_option maxHeartbeats 1600000 in
theorem l8Right_any (r : PRow) (p : Prg) (a a' af : Option Addr) (n c n' c' nf cf : Nat) (ls ss : List Int) (w : World) (h : ProgAt w r p) (h1 : Ints w a n ls) (h2 : Ints w a' n' ss) :
    Calls Tryz.prog 83 #[progV r, .slice a n c, .slice a' n' c', .slice af nf cf] w fun e w' => e = .returned (.bool (startB p ls ss && decide (nf = r.secrets.2.1))) ∧ Below w.heap.size w w' := by
  obtain ⟨R, HR⟩ : ∃ R, Hid ((startB p ls ss && decide (nf = r.secrets.2.1)) = R) := ⟨_, rfl⟩
  rw [HR.out]
  have HP := Lib.hid h
  have HI1 := Lib.hid h1
  have HI2 := Lib.hid h2
  clear h h1 h2
  obtain ⟨wd, ⟨a1, n1, c1⟩, ⟨a2, n2, c2⟩, tp, ⟨a3, n3, c3⟩, ⟨a4, n4, c4⟩, rows⟩ := r
  show Calls Tryz.prog 83 #[.agg #[.int .i64 wd, .slice a1 n1 c1, .slice a2 n2 c2, .int .i64 tp, .slice a3 n3 c3, .slice a4 n4 c4], .slice a n c, .slice a' n' c', .slice af nf cf] w _
  have hR := HR.out
  simp only [] at hR
  obtain ⟨s, HS⟩ : ∃ s, Hid (startB p ls ss = s) := ⟨_, rfl⟩
  rw [HS.out] at hR
  have HRR := Lib.hid hR
  clear hR HR
  obtain ⟨wa, HW⟩ : ∃ wa, Hid (wa = w.alloc (.cells #[.int .i64 wd, .slice a1 n1 c1, .slice a2 n2 c2, .int .i64 tp, .slice a3 n3 c3, .slice a4 n4 c4] 31)) := ⟨_, rfl⟩
  have B0 : Blk wa w.heap.size 31 [.int .i64 wd, .slice a1 n1 c1, .slice a2 n2 c2, .int .i64 tp, .slice a3 n3 c3, .slice a4 n4 c4] := by rw [HW.out]; exact Blk.new w _ _
  have HB : Below w.heap.size w wa := by rw [HW.out]; exact belA' (Below.refl _ _)
  go_enter Tryz.func83, Tryz.ntmps83
  go_wp2_with fail
  rw [← HW.out]
  refine (specStartOf_ans ⟨wd, (a1, n1, c1), (a2, n2, c2), tp, (a3, n3, c3), (a4, n4, c4), rows⟩ p a a' n c n' c' ls ss _ (HP.out.below HB) (HI1.out.below HB) (HI2.out.below HB)).mono ?_
  rintro e w1 ⟨hb1, ⟨⟨va, vn, vc⟩, ⟨ca, cn, cc⟩, rws⟩, rfl, _⟩
  simp only [envV, slV, HS.out]
  have hb2 : Below w1.heap.size w1 (w1.alloc (.cells #[.slice va vn vc, .slice ca cn cc] 90)) := belA' (Below.refl _ _)
  have B1 := (B0.below hb1 B0.lt).below hb2 (B0.below hb1 B0.lt).lt
  have t2 := B1.cell (j := 2) rfl
  have HF := Lib.hid (HB.trans ((hb1.trans (hb2.mono hb1.size)).mono HB.size))
  clear HW B0 B1 hb1 hb2
  cases s with
  | false =>
    have HX : Hid (false = R) := Lib.hid (by rw [← HRR.out]; rfl)
    go_wp2
    go_ret
    exact ⟨ret_bool HX.out, HF.out⟩
  | true =>
    by_cases hnf : nf = n2
    · have he : ((nf : Int) == (n2 : Int)) = true := by simp; omega
      have HX : Hid (true = R) := Lib.hid (by rw [← HRR.out, decide_eq_true hnf]; rfl)
      clear hnf
      go_wp2
      go_ret
      exact ⟨ret_bool HX.out, HF.out⟩
    · have he : ((nf : Int) == (n2 : Int)) = false := by simp; omega
      have HX : Hid (false = R) := Lib.hid (by rw [← HRR.out, decide_eq_false hnf]; rfl)
      clear hnf
      go_wp2
      go_ret
      exact ⟨ret_bool HX.out, HF.out⟩
end Go.Proofs.YtmooecbdpfhnlaaGreat
/- A step of a region that draws, by its run; 'append(xs, ys...)' and 'append(xs, make(..)...)' at numbers, at such a step. -/
namespace Go.Proofs.YtmooecbdpfhnlaaGreat
open Go.RowKit

theorem step_run {ops : Array Oper} {o : Oper} {ac : Act} {K : Act → World → Prop} {Q : Exit → Act → World → Prop} {E : Prop} (w : World) (hgd : o.guard = none) (s x : Operand) (t1 t2 : TypeId)
    (ho : o.op = .call { callee := .builtin .append, args := #[s, x], argTypes := #[t1, t2] }) (v u : Value) (hs : ac.eval s = v) (hx : ac.eval x = u) (r : Value) (w' : World)
    (hrun : (Builtin.append_ #[t1, t2] o.type #[v, u]).run Tryz.prog w = .ok r w') (h : K (ac.put o.dst r) w') :
    if Region.wanted o (yielded ops ac.tmps) = true then Oper.wp Tryz.prog o ac w K Q else E := by
  have hwant : Region.wanted o (yielded ops ac.tmps) = true := by simp [Region.wanted, hgd]
  rw [if_pos hwant]
  unfold Oper.wp
  simp [execOp, ho, resolve, invoke, builtin, hs, hx, hrun, Result.andThen]
  exact h
set_option maxRecDepth 20000 in
theorem run_append_ints (w : World) (ty : TypeId) (B : Nat) (a : Option Addr) (n c : Nat) (zs : List Int) (hown : Own w B a n c zs) (a2 : Option Addr) (m c2 : Nat) (ys : List Int) (hi2 : Ints w a2 m ys) (hn : n + m ≤ 1048576) (hB : B ≤ w.heap.size) :
    ∃ a1 c1 w', (Builtin.append_ #[28, 28] ty #[.slice a n c, .slice a2 m c2]).run Tryz.prog w = .ok (.slice a1 (n + m) c1) w' ∧ Own w' B a1 (n + m) c1 (zs ++ ys) ∧ w.grownBy w' (Value.slice a n c).ownBlock := by
  cases a2 with
  | none =>
    have hm : m = 0 := by
      rcases Nat.eq_zero_or_pos m with h0 | h0
      · exact h0
      · obtain ⟨b, o', e, _⟩ := hi2.2.2.2 h0
        cases e
    subst hm
    have hys : ys = [] := List.eq_nil_of_length_eq_zero hi2.1
    subst hys
    exact ⟨a, c, w, run_append_nothing w ty (.slice a n c) B n _ hown.1 c2, by simpa using hown, World.grownBy.refl _ _⟩
  | some ad =>
    obtain ⟨i0, hi, hz0, hz1, hz2⟩ := info_parts info_i64
    have hl := hi2.1
    obtain ⟨v', w', hr, h1, h2, _⟩ := run_append_own (P := Tryz.prog) w B 28 ty 2 i0 (.int .i64 0) 1 8 Tryz.underlying28 hi hz0 hz1 hz2 rfl (by omega) (.slice a n c) n (zs.map (Value.int .i64)) hown.1
      ad m c2 (ys.map (Value.int .i64)) (by simp [hl]) (fun j u hj => by
        have hjl : j < ys.length := by have := (List.getElem?_eq_some_iff.1 hj).1; simpa using this
        obtain ⟨b, off, e, _, hc⟩ := hi2.2.2.2 (by omega)
        injection e with e
        subst e
        rw [Go.WideShapes.add_plain, hc j (by omega), ← hj]
        simp [List.getD_eq_getElem?_getD, hjl]) (ints_oneCell _ _) (by unfold maxLen; omega) (by omega) hB
    have hf : ∃ a1 c1, v' = .slice a1 (n + m) c1 := by
      rcases h1.2 with ⟨e, h0⟩ | ⟨g', cap, cur, e, _⟩
      · exact ⟨none, 0, by rw [e, h0]⟩
      · exact ⟨_, _, e⟩
    obtain ⟨a1, c1, rfl⟩ := hf
    refine ⟨a1, c1, w', hr, ⟨by simpa using h1, hn, fun y hy => ?_⟩, h2⟩
    rcases List.mem_append.1 hy with hy | hy
    · exact hown.2.2 y hy
    · exact hi2.2.2.1 y hy
theorem step_ints {ops : Array Oper} {o : Oper} {ac : Act} {K : Act → World → Prop} {Q : Exit → Act → World → Prop} {E : Prop} (w : World) (hgd : o.guard = none) (s x : Operand)
    (ho : o.op = .call { callee := .builtin .append, args := #[s, x], argTypes := #[28, 28] })
    (B : Nat) (a : Option Addr) (n c : Nat) (zs : List Int) (hs : ac.eval s = .slice a n c) (hown : Own w B a n c zs)
    (a2 : Option Addr) (m c2 : Nat) (ys : List Int) (hx : ac.eval x = .slice a2 m c2) (hi2 : Ints w a2 m ys) (hn : n + m ≤ 1048576) (hB : B ≤ w.heap.size)
    (h : ∀ a1 c1 w', Own w' B a1 (n + m) c1 (zs ++ ys) → w.grownBy w' (Value.slice a n c).ownBlock → K (ac.put o.dst (.slice a1 (n + m) c1)) w') :
    if Region.wanted o (yielded ops ac.tmps) = true then Oper.wp Tryz.prog o ac w K Q else E := by
  obtain ⟨a1, c1, w', hr, h1, h2⟩ := run_append_ints w o.type B a n c zs hown a2 m c2 ys hi2 hn hB
  exact step_run w hgd s x 28 28 ho _ _ hs hx _ _ hr (h a1 c1 w' h1 h2)
theorem step_zeros {ops : Array Oper} {o : Oper} {ac : Act} {K : Act → World → Prop} {Q : Exit → Act → World → Prop} {E : Prop} (w : World) (hgd : o.guard = none) (s x : Operand)
    (ho : o.op = .call { callee := .builtin .append, args := #[s, x], argTypes := #[28, 2] })
    (B : Nat) (a : Option Addr) (n c : Nat) (zs : List Int) (hs : ac.eval s = .slice a n c) (hown : Own w B a n c zs)
    (m : Nat) (hx : ac.eval x = .int .i64 (m : Int)) (hn : n + m ≤ 1048576) (hB : B ≤ w.heap.size)
    (h : ∀ a1 c1 w', Own w' B a1 (n + m) c1 (zs ++ List.replicate m 0) → w.grownBy w' (Value.slice a n c).ownBlock → K (ac.put o.dst (.slice a1 (n + m) c1)) w') :
    if Region.wanted o (yielded ops ac.tmps) = true then Oper.wp Tryz.prog o ac w K Q else E := by
  obtain ⟨a1, c1, w', hr, h1, h2⟩ := run_append_zeros w o.type B a n c zs m hown hn hB
  exact step_run w hgd s x 28 2 ho _ _ hs hx _ _ hr (h a1 c1 w' h1 h2)
theorem own_emptyB (X : World) (B b : Nat) (h : X.heap.size = b) (hB : B ≤ b) : Own (X.alloc (.cells #[] 2)) B (some ⟨b, 0, none⟩) 0 0 [] := by rw [← h]; exact own_empty X B (by omega)
theorem own_zero {w : World} {B : Nat} {a : Option Addr} {n c : Nat} {zs : List Int} (h : Own w B a (0 + n) c ([] ++ zs)) : Own w B a n c zs := by rw [Nat.zero_add] at h; exact h
theorem own_drew {w : World} {B : Nat} {a : Option Addr} {n c : Nat} {zs : List Int} (h : Own w B a n c zs) : Own w.drew B a n c zs := h
end Go.Proofs.YtmooecbdpfhnlaaGreat
