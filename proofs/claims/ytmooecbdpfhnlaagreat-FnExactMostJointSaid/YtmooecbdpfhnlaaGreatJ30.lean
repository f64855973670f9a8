/- Joined texts of this proof (SpecTable, ImplAdd), in build order. -/
import Derived.Test.YtmooecbdpfhnlaaGreatJ27
import Derived.Test.YtmooecbdpfhnlaaGreatJ29
import Derived.Test.YtmooecbdpfhnlaaGreatJ28
/- The contract of the model's l8Table: all inputs and their outcomes, by number. -/
namespace Go.Proofs.YtmooecbdpfhnlaaGreat
open Go.RowKit

/-- The outcome of the input of a number. -/
noncomputable def ocAt (p : Prg) (i : Nat) : Oc := (outR p (atL p (i : Int)) (atS p (i : Int)), endR p (atL p (i : Int)) (atS p (i : Int)))
noncomputable def tabIn (p : Prg) (k : Nat) : List (List Int) := (List.range k).map (fun i : Nat => digs (maxesP p) (i : Int))
noncomputable def tabOut (p : Prg) (k : Nat) : List Oc := (List.range k).map (ocAt p)
theorem tabIn_succ (p : Prg) (k : Nat) : tabIn p (k + 1) = tabIn p k ++ [digs (maxesP p) (k : Int)] := by simp [tabIn, List.range_succ]
theorem tabOut_succ (p : Prg) (k : Nat) : tabOut p (k + 1) = tabOut p k ++ [ocAt p k] := by simp [tabOut, List.range_succ]
theorem tabIn_at {p : Prg} {k i : Nat} (h : i < k) : intsAt (tabIn p k) i = digs (maxesP p) (i : Int) := by simp [intsAt, tabIn, List.getD_eq_getElem?_getD, h]
theorem tabOut_at {p : Prg} {k i : Nat} (h : i < k) : oAt (tabOut p k) i = ocAt p i := by simp [oAt, tabOut, List.getD_eq_getElem?_getD, h]
section
variable {w w' : World} {B E : Nat} {a : Option Addr} {n c : Nat} {rs : List OcR} {os : List Oc} {row : Option Nat}
theorem OwnO.keep (h : OwnO w B E a n c rs os) (hg : w.grownBy w' row) (ho : ∀ g, (Value.slice a n c).ownBlock = some g → row ≠ some g) (hv : ∀ i g, i < n → (slV (rAt rs i).vals).ownBlock = some g → row ≠ some g) : OwnO w' B E a n c rs os := by
  refine ⟨h.1.kept hg ?_, h.2.1, h.2.2.1, fun i hi => ⟨(h.2.2.2 i hi).1, (h.2.2.2 i hi).2.1, (h.2.2.2 i hi).2.2.1, (h.2.2.2 i hi).2.2.2.1, (h.2.2.2 i hi).2.2.2.2.keep hg (hv i · hi)⟩⟩
  cases he : (Value.slice a n c).ownBlock with
  | none => exact .inl rfl
  | some g => exact .inr fun e => ho g he e.symm
/-- A row of another kind turns. -/
theorem OwnO.kinds {B' e size m : Nat} {v : Value} {xs : List Value} (h : OwnO w B E a n c rs os) (hr : w.ownsRow B' e size v m xs) (h1 : 43 ≠ e) (h2 : 2 ≠ e) (hg : w.grownBy w' v.ownBlock) : OwnO w' B E a n c rs os :=
  h.keep hg (fun _ e => own_kinds h.1 hr h1 e) (fun i _ hi e => own_kinds (h.2.2.2 i hi).2.2.2.2.1 hr h2 e)
theorem OwnIS.kinds {B' e size m : Nat} {v : Value} {xs : List Value} {rs : List Sl} {css : List (List Int)} (h : OwnIS w B a n c rs css) (hr : w.ownsRow B' e size v m xs) (h1 : 28 ≠ e) (h2 : 2 ≠ e) (hg : w.grownBy w' v.ownBlock) : OwnIS w' B a n c rs css :=
  h.keep hg (fun _ e => own_kinds h.1 hr h1 e) (fun i _ hi e => own_kinds (h.2.2.2 i hi).1 hr h2 e)
theorem OwnIS.base {B' : Nat} {rs : List Sl} {css : List (List Int)} (h : OwnIS w B a n c rs css) (hB : B' ≤ B) : OwnIS w B' a n c rs css := by
  refine ⟨⟨h.1.1, ?_⟩, h.2.1, h.2.2.1, fun i hi => (h.2.2.2 i hi).base hB⟩
  rcases h.1.2 with hn | ⟨g, cap, cur, e, hb, r⟩
  · exact .inl hn
  · exact .inr ⟨g, cap, cur, e, by omega, r⟩
theorem OwnIS.snoc {r : Sl} {zs : List Int} {a1 : Option Addr} {c1 : Nat} {rs : List Sl} {css : List (List Int)} (h : OwnIS w B a n c rs css) (hr : Own w B r.1 r.2.1 r.2.2 zs) (hn : n < 1048576) (h1 : w'.ownsRow B 28 1 (.slice a1 (n + 1) c1) (n + 1) ((rs ++ [r]).map slV)) (hg : w.grownBy w' (Value.slice a n c).ownBlock) : OwnIS w' B a1 (n + 1) c1 (rs ++ [r]) (css ++ [zs]) := by
  have hlr := h.len
  have hls := h.2.2.1
  refine ⟨h1, by omega, by simp [hls], fun i hi => ?_⟩
  rcases Nat.lt_or_ge i n with hlt | hge
  · rw [show slAt (rs ++ [r]) i = slAt rs i from getD_left _ _ _ _ (by omega), show intsAt (css ++ [zs]) i = intsAt css i from getD_left _ _ _ _ (by omega)]
    exact (h.2.2.2 i hlt).keep hg (fun g e => own_kinds (h.2.2.2 i hlt).1 h.1 (by decide) e)
  · obtain rfl : i = n := by omega
    rw [show slAt (rs ++ [r]) i = r from getD_last _ _ _ _ (by omega), show intsAt (css ++ [zs]) i = zs from getD_last _ _ _ _ (by omega)]
    exact hr.keep hg (fun g e => own_kinds hr.1 h.1 (by decide) e)
end
theorem ownIS_empty (w : World) (B : Nat) (hB : B ≤ w.heap.size) : OwnIS (w.alloc (.cells #[] 28)) B (some ⟨w.heap.size, 0, none⟩) 0 0 [] [] :=
  ⟨World.ownsRow_lit w #[] 0 hB (by unfold maxLen; omega) rfl, by omega, rfl, fun i hi => absurd hi (by omega)⟩
theorem OwnIS.alloc {w : World} {B : Nat} {a : Option Addr} {n c : Nat} {rs : List Sl} {css : List (List Int)} (h : OwnIS w B a n c rs css) (o : Obj) : OwnIS (w.alloc o) B a n c rs css := h.below ((Below.refl _ _).alloc (Nat.le_refl _) o)
/-- 'append(in, a)'. -/
theorem wpList_pushIS {ops : Array Oper} {rest : List Oper} {o : Oper} {ac : Act} {Q : Exit → Act → World → Prop} (w : World) (hgd : o.guard = none) (s x : Operand)
    (ho : o.op = .call { callee := .builtin .append, args := #[s, x], argTypes := #[88, 88] })
    (B : Nat) (a : Option Addr) (n c : Nat) (rs : List Sl) (css : List (List Int)) (hs : ac.eval s = .slice a n c) (hown : OwnIS w B a n c rs css)
    (g : Nat) (r : Sl) (zs : List Int) (hx : ac.eval x = .slice (some ⟨g, 0, none⟩) 1 1) (hc1 : w.cell? ⟨g, 0, none⟩ = some (slV r)) (hr : Own w B r.1 r.2.1 r.2.2 zs) (hn : n < 1048576) (hB : B ≤ w.heap.size)
    (h : ∀ a1 c1 w', OwnIS w' B a1 (n + 1) c1 (rs ++ [r]) (css ++ [zs]) → GrowsTo w (.slice a n c) w' (.slice a1 (n + 1) c1) → wpList Tryz.prog ops Q rest (ac.put o.dst (.slice a1 (n + 1) c1)) w') : wpList Tryz.prog ops Q (o :: rest) ac w := by
  refine wpList_pushG w hgd s x 88 28 (.slice none 0 0) 1 24 ho Tryz.underlying88 info_ints rfl (by omega) B a n c (rs.map slV) hs hown.1 ⟨g, 0, none⟩ 1 1 [slV r] hx rfl ?_ ?_ (by unfold maxLen; omega) (by omega) hB ?_
  · intro j u hj
    match j, hj with
    | 0, hj => simp at hj; subst hj; simpa [Addr.add] using hc1
  · intro u hu; simp at hu; subst hu; rfl
  · intro a1 c1 w' r1 r2
    exact h a1 c1 w' (hown.snoc hr hn (by rw [List.map_append]; exact r1) r2.1) r2
/-- What l8Table leaves: C inputs, C outcomes. -/
def Tabled (w : World) (p : Prg) (C : Nat) (e : Ending) (w' : World) : Prop :=
  Below w.heap.size w w' ∧ ∃ (ia oa : Option Addr) (ic oc : Nat) (irs : List Sl) (ors : List OcR), e = .returned (.tuple #[.slice ia C ic, .slice oa C oc]) ∧ OwnIS w' w.heap.size ia C ic irs (tabIn p C) ∧ OwnO w' w.heap.size w.heap.size oa C oc ors (tabOut p C)
theorem maxOk_of {p : Prg} (h : codeB p = 0) : MaxOk (maxesP p) := code_max h
def SmallR (r : Rz) : Prop := (0 ≤ r.1 ∧ r.1 ≤ 2) ∧ (0 ≤ r.2 ∧ r.2 ≤ 9)
theorem small_trap {S : Nat} {q : Sta} {ts : List Tm} (h : trS S q ts ≠ 0) : SmallR (2, trS S q ts) := by
  rcases trS_of h with e | e <;> rw [e] <;> exact ⟨⟨by decide, by decide⟩, ⟨by decide, by decide⟩⟩
theorem small_zero : SmallR (0, 0) := ⟨⟨by decide, by decide⟩, ⟨by decide, by decide⟩⟩
theorem Basic.small {p : Prg} {S : Nat} {s : Stm} {q q' : Sta} {r : Rz} (h : Basic S s q q' r) (hg : goodS p s) : SmallR r := by
  cases h with
  | setT _ h | putA _ h | putE _ _ h | outT _ h => exact small_trap h
  | putC => exact ⟨⟨by decide, by decide⟩, ⟨by decide, by decide⟩⟩
  | throw h =>
    have := goodS_num hg
    rw [h] at this
    simp [numOk] at this
    exact ⟨⟨(by omega : (0 : Int) ≤ 1), (by omega : (1 : Int) ≤ 2)⟩, this⟩
  | _ => exact small_zero
theorem Runs.small {p : Prg} {S : Nat} {ss : List Stm} {m : Mode} {i j s : Nat} {q q' : Sta} {r : Rz} (h : Runs S ss m i j s q q' r) (hg : ∀ i, i < ss.length → goodS p (stAt ss i)) : SmallR r := by
  induction h with
  | plain hi _ _ _ h => exact h.small (hg _ hi)
  | ifT _ _ _ _ h => exact small_trap h
  | nil | zero | if0 => exact small_zero
  | _ => assumption
theorem rz_small (p : Prg) (ls ss : List Int) : SmallR (endR p ls ss) := by
  unfold endR
  by_cases h : startB p ls ss = true
  · obtain ⟨s, _, hr⟩ := runX_spec h
    exact hr.small (code_good (startB_ok h)).1
  · rw [runX_no (by simpa using h)]; exact small_zero
theorem SmallR.in1 {r : Rz} (h : SmallR r) : In64 r.1 := ⟨by have := h.1; omega, by have := h.1; omega⟩
theorem SmallR.in2 {r : Rz} (h : SmallR r) : In64 r.2 := ⟨by have := h.2; omega, by have := h.2; omega⟩
set_option maxRecDepth 20000 in
set_option maxHeartbeats 3200000 in
theorem l8Table_any (r : PRow) (p : Prg) (C : Nat) (w : World) (h : ProgAt w r p) (hz : codeB p = 0) (hC : prodL (maxesP p) = (C : Int)) (hC2 : C ≤ 1024) :
    Calls Tryz.prog 73 #[progV r] w (Tabled w p C) := by
  have hM := Lib.hid (fun (w' : World) (hw : Below w.heap.size w w') => l7Maxes_any r p w' (h.below hw) (code_inputs hz).1 (code_inputs hz).2.1)
  have HMX := Lib.hid (wide_of_max hz)
  have HMO := Lib.hid (maxOk_of hz)
  have HCC : Hid (countTo (maxesP p) (maxesP p).length = (C : Int)) := Lib.hid (by rw [countTo_prod, hC])
  have HL6 : Hid ((maxesP p).length ≤ 6) := Lib.hid (code_max hz).1
  have HAT : Hid (∀ k : Nat, k < C → atOk p (k : Int) = true) := Lib.hid (fun k hk => by simp only [atOk, hz, hC, decide_true, Bool.true_and, Bool.and_eq_true, decide_eq_true_eq]; omega)
  have HP := Lib.hid h
  clear h hz hC
  obtain ⟨wd, ⟨a1, n1, c1⟩, ⟨a2, n2, c2⟩, tp, ⟨a3, n3, c3⟩, ⟨a4, n4, c4⟩, rows⟩ := r
  have HM : Hid (∀ w', Below w.heap.size w w' → Calls Tryz.prog 55 #[.agg #[.int .i64 wd, .slice a1 n1 c1, .slice a2 n2 c2, .int .i64 tp, .slice a3 n3 c3, .slice a4 n4 c4]] w' (MadeInts w' (maxesP p))) := Lib.hid (fun w' hw => hM.out w' hw)
  clear hM
  show Calls Tryz.prog 73 #[.agg #[.int .i64 wd, .slice a1 n1 c1, .slice a2 n2 c2, .int .i64 tp, .slice a3 n3 c3, .slice a4 n4 c4]] w _
  obtain ⟨wa, HW⟩ : ∃ wa, Hid (wa = w.alloc (.cells #[.int .i64 wd, .slice a1 n1 c1, .slice a2 n2 c2, .int .i64 tp, .slice a3 n3 c3, .slice a4 n4 c4] 31)) := ⟨_, rfl⟩
  have BX : Blk wa w.heap.size 31 [.int .i64 wd, .slice a1 n1 c1, .slice a2 n2 c2, .int .i64 tp, .slice a3 n3 c3, .slice a4 n4 c4] := by rw [HW.out]; exact Blk.new w _ _
  have HB : Below w.heap.size w wa := by rw [HW.out]; exact belA (Below.refl _ _)
  go_enter Tryz.func73, Tryz.ntmps73
  go_wp2_with fail
  rw [← HW.out]
  refine (HM.out _ HB).mono ?_
  rintro e w1 ⟨ma, mn, mc, rfl, hom, hb1⟩
  have HMN : Hid (mn = (maxesP p).length) := Lib.hid hom.len.symm
  have hmn : mn ≤ 6 := by rw [HMN.out]; exact HL6.out
  have hbw := HB.trans (hb1.mono HB.size)
  have HBX := Lib.hid (BX.below hb1 BX.lt)
  have HI := Lib.hid hom.ints
  have HBW := Lib.hid hbw
  obtain ⟨k0, HK0⟩ : ∃ k, Hid (w.heap.size = k) := ⟨_, rfl⟩
  have HBX : Hid (Blk w1 k0 31 [.int .i64 wd, .slice a1 n1 c1, .slice a2 n2 c2, .int .i64 tp, .slice a3 n3 c3, .slice a4 n4 c4]) := Lib.hid (by rw [← HK0.out]; exact HBX.out)
  clear HM HW hb1 BX HB hom hbw
  go_wp2_with fail
  rw [HK0.out]
  go_loopw [5, 6, 7] (fun iv ov nv wr => ∃ (k : Nat) (ia oa : Option Addr) (ic oc : Nat) (irs : List Sl) (ors : List OcR), k ≤ C ∧ nv = .int .i64 (k : Int) ∧ iv = .slice ia k ic ∧ ov = .slice oa k oc ∧ OwnIS wr w1.heap.size ia k ic irs (tabIn p k) ∧ OwnO wr w1.heap.size w1.heap.size oa k oc ors (tabOut p k) ∧ Below w1.heap.size w1 wr) (fun _ _ nv _ => C - (intOf nv).toNat)
  case atStart => exact ⟨0, _, _, 0, 0, [], [], Nat.zero_le _, rfl, rfl, rfl, (ownIS_empty w1 _ (Nat.le_refl _)).alloc _, by have := ownO_empty (w1.alloc (.cells #[] 28)) w1.heap.size w1.heap.size (by simp); simpa [tabOut] using this, belA (belA (Below.refl _ _))⟩
  case round =>
    obtain ⟨k, ia, oa, ic, oc, irs, ors, hk, rfl, rfl, rfl, hin, hout, hbel⟩ := hrel
    go_wp2_with fail
    refine (l7Count_any _ _ _ _ _ (HI.out.below hbel) HMO.out).mono ?_
    rintro e w2 ⟨rfl, rfl⟩
    rw [HCC.out]
    by_cases hlt : k < C
    · go_wp2_with fail
      refine (l7At_any _ _ _ _ (k : Int) _ (HI.out.below hbel) HMX.out (by omega) (by omega) hmn).mono ?_
      rintro e w3 ⟨g, zc, rfl, hoz, hb⟩
      have hin := hin.below hb
      have hout := hout.below hb
      have hsz := hbel.size
      have hbel := hbel.trans (hb.mono hbel.size)
      have hsz3 := hbel.size
      have hozb := hoz.base hsz
      have HTI := Lib.hid (tabIn_succ p k)
      have HTO := Lib.hid (tabOut_succ p k)
      clear hoz hb
      go_wp2_with (at_builtin; refine wpList_pushIS _ rfl _ _ rfl w1.heap.size _ _ _ irs (tabIn p k) rfl (hin.alloc _) w3.heap.size (some ⟨g, 0, none⟩, mn, zc) (digs (maxesP p) (k : Int)) rfl (by simp [slV]) (hozb.alloc _) (by omega) (by simp; omega) ?_)
      intro a8 c8 w8 hin8 hg8
      rw [← HTI.out] at hin8
      have hout8 := (hout.alloc (.cells #[slV (some ⟨g, 0, none⟩, mn, zc)] 28)).kinds (hin.alloc _).1 (by decide) (by decide) hg8.1
      have hoz8 : Own w8 w1.heap.size (some ⟨g, 0, none⟩) mn zc (digs (maxesP p) (k : Int)) := (hozb.alloc (.cells #[slV (some ⟨g, 0, none⟩, mn, zc)] 28)).keep hg8.1 (fun g' e => own_kinds hozb.1 hin.1 (by decide) e)
      have hbel8 : Below w1.heap.size w1 w8 := (hbel.alloc hsz3 _).grown hg8.1 (by simp; omega) (fun g e => (hin.1.lt g e).1)
      have hs8 := hbel8.size
      have hX := HBX.out.below hbel8 HBX.out.lt
      have t0 := hX.cell (j := 0) rfl
      have t1 := hX.cell (j := 1) rfl
      have t2 := hX.cell (j := 2) rfl
      have t3 := hX.cell (j := 3) rfl
      have t4 := hX.cell (j := 4) rfl
      have t5 := hX.cell (j := 5) rfl
      clear hX hin hout hozb hbel hg8
      go_wp2_with fail
      refine (l6Of_any ⟨wd, (a1, n1, c1), (a2, n2, c2), tp, (a3, n3, c3), (a4, n4, c4), rows⟩ p _ _ _ (atL p (k : Int)) (atS p (k : Int)) _ (HP.out.below (HBW.out.trans (hbel8.mono HBW.out.size))) (by rw [at_app (HAT.out k hlt)]; exact hoz8.ints) (at_start (HAT.out k hlt))).mono ?_
      rintro e w9 ⟨hb, ⟨va, vn, vc⟩, rfl, hov⟩
      simp only [slV]
      have hin9 := hin8.below hb
      have hout9 := hout8.below hb
      have hbel9 := hbel8.trans (hb.mono hbel8.size)
      have hs9 := hbel9.size
      have hov9 := hov.base hs8
      have hsm := rz_small p (atL p (k : Int)) (atS p (k : Int))
      have HOC : Hid (OcOf w9 w1.heap.size ⟨(va, vn, vc), (endR p (atL p (k : Int)) (atS p (k : Int))).1, (endR p (atL p (k : Int)) (atS p (k : Int))).2⟩ (ocAt p k)) := Lib.hid ⟨rfl, rfl, hsm.in1, hsm.in2, hov9⟩
      obtain ⟨en, HEN⟩ : ∃ en, Hid ((endR p (atL p (k : Int)) (atS p (k : Int))).1 = en) := ⟨_, rfl⟩
      obtain ⟨co, HCO⟩ : ∃ co, Hid ((endR p (atL p (k : Int)) (atS p (k : Int))).2 = co) := ⟨_, rfl⟩
      rw [HEN.out, HCO.out] at HOC ⊢
      clear t0 t1 t2 t3 t4 t5 hin8 hout8 hoz8 hbel8 hb hov hov9 hsm
      go_wp2_with (at_builtin; refine wpList_pushO _ rfl _ _ rfl w1.heap.size w1.heap.size _ _ _ ors (tabOut p k) rfl (hout9.alloc _) w9.heap.size va vn vc en co (ocAt p k) rfl (by simp) (by simp) (by simp) (HOC.out.below (belA (Below.refl _ _))) (by omega) (by simp; omega) ?_)
      intro aa cc wz hoz9 hgz
      rw [← HTO.out] at hoz9
      have hinz := (hin9.alloc (.cells #[.slice va vn vc, .int .i64 en, .int .i64 co] 43)).kinds (hout9.alloc _).1 (by decide) (by decide) hgz.1
      have hbelz : Below w1.heap.size w1 wz := (hbel9.alloc hs9 _).grown hgz.1 (by simp; omega) (fun g e => (hout9.1.lt g e).1)
      clear hin9 hout9 hbel9 hgz HOC
      go_wp2
      go_roundw
      case rel => exact ⟨k + 1, a8, aa, c8, cc, _, _, by omega, by go_num, rfl, rfl, hinz, hoz9, hbelz⟩
      case measure => simp [intOf]; omega
    · obtain rfl : k = C := by omega
      have HF := Lib.hid (HBW.out.trans (hbel.mono HBW.out.size))
      have H1 := Lib.hid (hin.base HBW.out.size)
      have H2 := Lib.hid ((hout.base HBW.out.size).ebase HBW.out.size)
      clear hin hout hbel
      go_wp2
      go_ret2
      exact ⟨HF.out, ia, oa, ic, oc, irs, ors, rfl, H1.out, H2.out⟩
end Go.Proofs.YtmooecbdpfhnlaaGreat
/- The program's sets of outcomes: a map and a list behind a pointer; newOutcomeSet, add. -/
namespace Go.Proofs.YtmooecbdpfhnlaaGreat
open Go.RowKit

/-- What lies outside of D is as it was. -/
structure Turn (D : Nat → Prop) (w w' : World) : Prop where
  os : w'.os = w.os
  tape : w'.tape = w.tape
  output : w'.output = w.output
  size : w.heap.size ≤ w'.heap.size
  block : ∀ i, i < w.heap.size → ¬ D i → w'.heap[i]? = w.heap[i]?
theorem Turn.refl (D : Nat → Prop) (w : World) : Turn D w w := ⟨rfl, rfl, rfl, Nat.le_refl _, fun _ _ _ => rfl⟩
theorem Turn.trans {D : Nat → Prop} {a b c : World} (h : Turn D a b) (k : Turn D b c) : Turn D a c :=
  ⟨k.os.trans h.os, k.tape.trans h.tape, k.output.trans h.output, Nat.le_trans h.size k.size, fun i hi hd => (k.block i (Nat.lt_of_lt_of_le hi h.size) hd).trans (h.block i hi hd)⟩
theorem Turn.of_below {D : Nat → Prop} {a b : World} (h : Below a.heap.size a b) : Turn D a b := ⟨h.os, h.tape, h.output, h.size, fun i hi _ => h.block i hi⟩
theorem Turn.of_grown {D : Nat → Prop} {a b : World} {row : Option Nat} (h : a.grownBy b row) (hr : ∀ g, row = some g → D g) : Turn D a b :=
  ⟨h.os, h.tape, h.output, h.size, fun i hi hd => h.block i hi (fun e => hd (hr i e.symm))⟩
theorem Turn.below {D : Nat → Prop} {B : Nat} {a b : World} (h : Turn D a b) (hD : ∀ i, D i → B ≤ i) (hB : B ≤ a.heap.size) : Below B a b :=
  ⟨h.os, h.tape, h.output, h.size, fun i hi => h.block i (by omega) (fun hd => by have := hD i hd; omega)⟩
/-- A set of outcomes: its box k, its map, its list, which lie in D; the rows of numbers lie from B on and below N. -/
def SetW (w : World) (D : Nat → Prop) (B N k : Nat) (os : List Oc) : Prop := ∃ m a n c rs,
  Blk w k 104 [.map (some m), .slice a n c] ∧ D k ∧ MapW w m ((os.map keyO).map okV) (os.map fun _ => .bool true) ∧ D m ∧
  OwnO w B B a n c rs os ∧ (∀ g, (Value.slice a n c).ownBlock = some g → D g) ∧ ApartO rs ∧ (∀ i g, i < n → (slV (rAt rs i).vals).ownBlock = some g → g < N) ∧ ∀ o ∈ os, ByteO o
section
variable {w w' : World} {D : Nat → Prop} {B N k : Nat} {os : List Oc}
theorem SetW.below (h : SetW w D B N k os) (hb : Below w.heap.size w w') : SetW w' D B N k os := by
  obtain ⟨m, a, n, c, rs, h1, h2, h3, h4, h5, h6, h7, h8, h9⟩ := h
  exact ⟨m, a, n, c, rs, h1.below hb h1.lt, h2, h3.below hb h3.lt, h4, h5.below hb, h6, h7, h8, h9⟩
theorem SetW.up {N' : Nat} (h : SetW w D B N k os) (hN : N ≤ N') : SetW w D B N' k os := by
  obtain ⟨m, a, n, c, rs, h1, h2, h3, h4, h5, h6, h7, h8, h9⟩ := h
  exact ⟨m, a, n, c, rs, h1, h2, h3, h4, h5, h6, h7, fun i g hi e => Nat.lt_of_lt_of_le (h8 i g hi e) hN, h9⟩
/-- Its numbers lie below the heap's end. -/
theorem SetW.top (h : SetW w D B N k os) : SetW w D B w.heap.size k os := by
  obtain ⟨m, a, n, c, rs, h1, h2, h3, h4, h5, h6, h7, h8, h9⟩ := h
  exact ⟨m, a, n, c, rs, h1, h2, h3, h4, h5, h6, h7, fun i g hi e => ((h5.2.2.2 i hi).2.2.2.2.block g e).2, h9⟩
/-- What turns elsewhere leaves it as it was. -/
theorem SetW.turn {D' : Nat → Prop} (h : SetW w D B N k os) (ht : Turn D' w w') (hD : ∀ i, D i → ¬ D' i) (hB : ∀ i, B ≤ i → i < N → ¬ D' i) : SetW w' D B N k os := by
  obtain ⟨m, a, n, c, rs, h1, h2, h3, h4, h5, h6, h7, h8, h9⟩ := h
  have hm := h3.lt
  obtain ⟨es, cl, e1, e2, e3⟩ := h3
  refine ⟨m, a, n, c, rs, (ht.block k h1.lt (hD k h2)).trans h1, h2, ⟨es, cl, (ht.block m hm (hD m h4)).trans e1, e2, e3⟩, h4, ?_, h6, h7, h8, h9⟩
  refine ⟨⟨h5.1.1, ?_⟩, h5.2.1, h5.2.2.1, fun i hi => ?_⟩
  · rcases h5.1.2 with hn | ⟨g, cap, cur, e, hb, hg, r⟩
    · exact .inl hn
    · exact .inr ⟨g, cap, cur, e, hb, (ht.block g (h5.block g (by rw [e]; rfl)).2 (hD g (h6 g (by rw [e]; rfl)))).trans hg, r⟩
  · obtain ⟨q1, q2, q3, q4, q5⟩ := h5.2.2.2 i hi
    refine ⟨q1, q2, q3, q4, ⟨⟨q5.1.1, ?_⟩, q5.2⟩⟩
    rcases q5.1.2 with hn | ⟨g, cap, cur, e, hb, hg, r⟩
    · exact .inl hn
    · have ho : (slV (rAt rs i).vals).ownBlock = some g := by rw [slV, e]; rfl
      exact .inr ⟨g, cap, cur, e, hb, (ht.block g (q5.block g ho).2 (hB g hb (h8 i g hi ho))).trans hg, r⟩
end
theorem own_not_map {w : World} {B e size n m : Nat} {v : Value} {xs ks vs : List Value} (h : w.ownsRow B e size v n xs) (hm : MapW w m ks vs) : ∀ g, v.ownBlock = some g → (some m : Option Nat) ≠ some g := by
  intro g hg e'
  injection e' with e'
  subst e'
  obtain ⟨c1, f1, h1⟩ := Go.Lib.ownsRow_kind h m hg
  obtain ⟨es, cl, h2, _⟩ := hm
  rw [h1] at h2
  cases h2
theorem blk_not_map {w : World} {b t m : Nat} {xs ks vs : List Value} (h : Blk w b t xs) (hm : MapW w m ks vs) : (some m : Option Nat) ≠ some b := by
  intro e'
  injection e' with e'
  subst e'
  obtain ⟨es, cl, h2, _⟩ := hm
  rw [show w.heap[m]? = _ from h] at h2
  cases h2
theorem map_not_own {w : World} {B e size n m : Nat} {v : Value} {xs ks vs : List Value} (h : w.ownsRow B e size v n xs) (hm : MapW w m ks vs) : v.ownBlock ≠ some m := fun e' => own_not_map h hm m e' rfl
set_option maxHeartbeats 800000 in
theorem newSet_any (w : World) : Calls Tryz.prog 60 #[] w fun e w' => e = .returned (.pointer (some ⟨w.heap.size + 1, 0, none⟩)) ∧ w' = (w.alloc (.map #[] 0)).alloc (.cells #[.map (some w.heap.size), .slice none 0 0] 104) := by
  have hmm := @run_makeMap Tryz.prog
  go_enter Tryz.func60, Tryz.ntmps60
  go_wp2
  go_ret
  exact ⟨rfl, rfl⟩
theorem setW_new (w : World) (D : Nat → Prop) (B N : Nat) (h0 : D w.heap.size) (h1 : D (w.heap.size + 1)) :
    SetW ((w.alloc (.map #[] 0)).alloc (.cells #[.map (some w.heap.size), .slice none 0 0] 104)) D B N (w.heap.size + 1) [] := by
  refine ⟨w.heap.size, none, 0, 0, [], ?_, h1, ?_, h0, ownO_nil _ _ _, fun g e => by simp [Value.ownBlock] at e, apartO_nil, fun i g hi => absurd hi (by omega), fun o ho => by simp at ho⟩
  · simpa using Blk.new (w.alloc (.map #[] 0)) 104 [.map (some w.heap.size), .slice none 0 0]
  · exact (mapW_made w).below (belA (Below.refl _ _)) (by simp)
theorem zero_bool (w : World) : (zeroValue 4).run Tryz.prog w = .ok (.bool false) w := by kernel_rfl
/-- Whether it is there. -/
theorem seen_any {w : World} {m : Nat} {os : List Oc} (h : MapW w m ((os.map keyO).map okV) (os.map fun _ => .bool true)) (hb : ∀ o ∈ os, ByteO o) (o : Oc) (ho : ByteO o) :
    (Instr.lookup 102 (.map (some m)) (okV (keyO o)) false).run Tryz.prog w = .ok (.bool (decide (o ∈ os))) w := by
  obtain ⟨v, hr, hv⟩ := h.lookup keyLaw_oc (t := 102) Tryz.underlying102 (.bool false) (zero_bool w) (keyO o)
  rw [hr]
  rcases hv with ⟨hn, rfl⟩ | ⟨j, h1, h2⟩
  · rw [decide_eq_false (fun hm => hn (List.mem_map.2 ⟨o, hm, rfl⟩))]
  · rw [List.getElem?_map] at h1 h2
    cases he : os[j]? with
    | none => rw [he] at h1; cases h1
    | some o' =>
      rw [he] at h1 h2
      simp only [Option.map_some, Option.some.injEq] at h1 h2
      have hm := List.mem_of_getElem? he
      have := key_inj (hb o' hm) ho h1
      subst this
      rw [← h2, decide_eq_true hm]
theorem cell_afterX {w8 : World} {k j : Nat} {v : Value} (h : w8.cell? ⟨k, j, none⟩ = some v) (o : Obj) : (w8.alloc o).cell? ⟨k, j, none⟩ = some v := by
  have hk : k < w8.heap.size := by
    rcases Nat.lt_or_ge k w8.heap.size with h' | h'
    · exact h'
    · simp [World.cell?, Array.getElem?_eq_none h'] at h
  exact ((belA (Below.refl _ w8)).cell hk).trans h
/-- One outcome more: the map knows it, the list has it. -/
theorem setW_add {w w3 w8 : World} {D : Nat → Prop} {B N k mp ln lc m d c8 : Nat} {la v a8 : Option Addr} {rs : List OcR} {os : List Oc} {oc : Oc} {en co : Int} (T : Turn D w w3) (hd3 : Below w3.heap.size w3 w3.drew)
    (_K3 : Blk w3 k 104 [.map (some mp), .slice la ln lc]) (M3 : MapW w3 mp ((os.map keyO ++ [keyO oc]).map okV) ((os.map fun _ => .bool true) ++ [.bool true])) (L3 : OwnO w3 B B la ln lc rs os) (C3 : OcOf w3 B ⟨(v, m, d), en, co⟩ oc)
    (hown8 : OwnO w8 B B a8 (ln + 1) c8 (rs ++ [⟨(v, m, d), en, co⟩]) (os ++ [oc])) (hg8 : GrowsTo (w3.drew.alloc (.cells #[.slice v m d, .int .i64 en, .int .i64 co] 43)) (.slice la ln lc) w8 (.slice a8 (ln + 1) c8))
    (h2 : D k) (h4 : D mp) (h6 : ∀ g, (Value.slice la ln lc).ownBlock = some g → D g) (hD : ∀ i, w3.heap.size ≤ i → D i) (_hB : B ≤ w.heap.size) (h7 : ApartO rs) (h8 : ∀ i g, i < ln → (slV (rAt rs i).vals).ownBlock = some g → g < N)
    (hv : ∀ g, (Value.slice v m d).ownBlock = some g → N ≤ g) (h9 : ∀ o ∈ os, ByteO o) (hby : ByteO oc) (_hs3 : w.heap.size ≤ w3.heap.size) (X8 : Blk w8 k 104 [.map (some mp), .slice la ln lc]) :
    SetW (w8.setCell ⟨k, 1, none⟩ (.slice a8 (ln + 1) c8)) D B (w8.setCell ⟨k, 1, none⟩ (.slice a8 (ln + 1) c8)).heap.size k (os ++ [oc]) ∧ Turn D w (w8.setCell ⟨k, 1, none⟩ (.slice a8 (ln + 1) c8)) := by
  have hba : Below w3.heap.size w3 (w3.drew.alloc (.cells #[.slice v m d, .int .i64 en, .int .i64 co] 43)) := belA hd3
  have M4 := M3.below hba M3.lt
  have L4 := L3.below hba
  have M8 := M4.kept hg8.1 (map_not_own L4.1 M4)
  have g9 := grown_set w8 k 1 (.slice a8 (ln + 1) c8)
  have M9 := M8.kept g9 (fun e => blk_not_map X8 M8 e.symm)
  have O9 : OwnO (w8.setCell ⟨k, 1, none⟩ (.slice a8 (ln + 1) c8)) B B a8 (ln + 1) c8 (rs ++ [⟨(v, m, d), en, co⟩]) (os ++ [oc]) := hown8.keep g9 (blk_apart X8 hown8.1 (by decide)) (fun i g hi e => blk_apart X8 (hown8.2.2.2 i hi).2.2.2.2.1 (by decide) g e)
  have hl := L3.len
  refine ⟨⟨mp, a8, ln + 1, c8, _, X8.set (j := 1) _, h2, ?_, h4, O9, fun g e => ?_, h7.snoc (fun i g hi e e' => ?_), fun i g hi e => ((O9.2.2.2 i hi).2.2.2.2.block g e).2, fun o ho => ?_⟩, ?_⟩
  · simpa using M9
  · rcases hg8.2 g e with e' | e'
    · exact h6 g e'
    · exact hD g (by have := hba.size; omega)
  · have := h8 i g (by omega) e
    have := hv g e'
    omega
  · rcases List.mem_append.1 ho with ho | ho
    · exact h9 o ho
    · rw [List.mem_singleton] at ho; subst ho; exact hby
  · exact ((T.trans (Turn.of_below hba)).trans (Turn.of_grown hg8.1 h6)).trans (Turn.of_grown g9 (fun g e => by injection e with e; rw [← e]; exact h2))
set_option maxRecDepth 20000 in
set_option maxHeartbeats 3200000 in
theorem add_any (w : World) (D : Nat → Prop) (B N k : Nat) (os : List Oc) (v : Option Addr) (m d : Nat) (en co : Int) (oc : Oc) (h : SetW w D B N k os) (hD : ∀ i, w.heap.size ≤ i → D i) (hB : B ≤ w.heap.size)
    (hoc : OcOf w B ⟨(v, m, d), en, co⟩ oc) (hby : ByteO oc) (hm : m ≤ 1000) (hv : ∀ g, (Value.slice v m d).ownBlock = some g → N ≤ g) (hlen : os.length ≤ 100000) :
    Calls Tryz.prog 104 #[.pointer (some ⟨k, 0, none⟩), .agg #[.slice v m d, .int .i64 en, .int .i64 co]] w fun e w' => e = .returned (.tuple #[]) ∧ SetW w' D B w'.heap.size k (addNew os oc) ∧ Turn D w w' := by
  obtain ⟨wa, HW⟩ : ∃ wa, Hid (wa = w.alloc (.cells #[.slice v m d, .int .i64 en, .int .i64 co] 43)) := ⟨_, rfl⟩
  have B0 : Blk wa w.heap.size 43 [.slice v m d, .int .i64 en, .int .i64 co] := by rw [HW.out]; exact Blk.new w _ _
  have hba : Below w.heap.size w wa := by rw [HW.out]; exact belA (Below.refl _ _)
  have hk1 := keyOf_any B v m d en co oc wa (hoc.below hba) hby hm
  have HK1 := Lib.hid hk1
  obtain ⟨KY, HKY⟩ : ∃ KY, Hid (okV (keyO oc) = KY) := ⟨_, rfl⟩
  rw [HKY.out] at HK1
  have HKA : Hid (KY = .agg #[.string (strOfNums oc.1), .int .i64 oc.2.1, .int .i64 oc.2.2]) := Lib.hid HKY.out.symm
  obtain ⟨S, HS⟩ : ∃ S, Hid (strOfNums oc.1 = S) := ⟨_, rfl⟩
  obtain ⟨o1, HO1⟩ : ∃ z, Hid (oc.2.1 = z) := ⟨_, rfl⟩
  obtain ⟨o2, HO2⟩ : ∃ z, Hid (oc.2.2 = z) := ⟨_, rfl⟩
  rw [HS.out, HO1.out, HO2.out] at HKA
  rw [HKA.out] at HK1
  have t0 := B0.cell (j := 0) rfl
  have t1 := B0.cell (j := 1) rfl
  have t2 := B0.cell (j := 2) rfl
  have HSW := Lib.hid h
  have HOC := Lib.hid hoc
  have HBY := Lib.hid hby
  have HDD := Lib.hid hD
  have HV := Lib.hid hv
  clear hk1 h hoc hby hD hv
  go_enter Tryz.func104, Tryz.ntmps104
  go_wp2_with fail
  rw [← HW.out]
  refine HK1.out.mono ?_
  rintro e w1 ⟨rfl, hb1⟩
  obtain ⟨wb, HWB⟩ : ∃ wb, Hid (wb = w1.alloc (.cells #[.string S, .int .i64 o1, .int .i64 o2] 187)) := ⟨_, rfl⟩
  have hbb : Below w1.heap.size w1 wb := by rw [HWB.out]; exact belA (Below.refl _ _)
  have hbw : Below w.heap.size w wb := hba.trans ((hb1.trans (hbb.mono hb1.size)).mono hba.size)
  have BO : Blk wb w.heap.size 43 [.slice v m d, .int .i64 en, .int .i64 co] := (B0.below hb1 B0.lt).below hbb (B0.below hb1 B0.lt).lt
  have BK : Blk wb w1.heap.size 187 [.string S, .int .i64 o1, .int .i64 o2] := by rw [HWB.out]; exact Blk.new w1 _ _
  have hkw : w.heap.size < w1.heap.size := Nat.lt_of_lt_of_le B0.lt hb1.size
  obtain ⟨mp, la, ln, lc, rs, h1, h2, h3, h4, h5, h6, h7, h8, h9⟩ := HSW.out.below hbw
  have hkk : k < w.heap.size := by obtain ⟨_, _, _, _, _, z, _⟩ := HSW.out; exact z.lt
  have hmk : mp < wb.heap.size := h3.lt
  have HH3 := Lib.hid h3
  have HH9 := Lib.hid h9
  have hseen : ∀ j, (Instr.lookup 102 (.map (some mp)) (.agg #[.string S, .int .i64 o1, .int .i64 o2]) false).run Tryz.prog (wb.drewN j) = .ok (.bool (decide (oc ∈ os))) (wb.drewN j) := fun j => by
    have := seen_any (w := wb.drewN j) HH3.out HH9.out oc HBY.out
    rw [HKY.out, HKA.out] at this
    exact this
  obtain ⟨q, HQ⟩ : ∃ q, Hid (decide (oc ∈ os) = q) := ⟨_, rfl⟩
  rw [HQ.out] at hseen
  have HB1 := Lib.hid h1
  have HB2 := Lib.hid BO
  have HB3 := Lib.hid BK
  have HBW := Lib.hid hbw
  have x0 := h1.cell (j := 0) rfl
  have y0 := BK.cell (j := 0) rfl
  have y1 := BK.cell (j := 1) rfl
  have y2 := BK.cell (j := 2) rfl
  clear t0 t1 t2 HK1 hb1 hbb hbw B0 hba HW
  cases q with
  | true =>
    have hin : oc ∈ os := by have := HQ.out; simpa using this
    have HF : Hid (∀ j, SetW (wb.drewN j) D B (wb.drewN j).heap.size k (addNew os oc) ∧ Turn D w (wb.drewN j)) := Lib.hid (fun j => by
      have hbj : Below w.heap.size w (wb.drewN j) := HBW.out.trans ((below_drewN wb j).mono HBW.out.size)
      rw [addNew, if_pos hin]
      exact ⟨(HSW.out.below hbj).top, Turn.of_below hbj⟩)
    clear h1 h2 h3 h4 h5 h6 h7 h8 h9 BO BK HB1 HB2 HB3 HH3 HH9 HSW hin
    go_wp2
    rw [← HWB.out]
    go_quiet (fail)
    rename_i nq
    have hff := HF.out nq
    go_wp2
    go_end0
    exact ⟨rfl, hff⟩
  | false =>
    have hnin : ¬ oc ∈ os := by have := HQ.out; simpa using this
    have hnk : keyO oc ∉ os.map keyO := fun hmem => by
      obtain ⟨o', ho', he⟩ := List.mem_map.1 hmem
      have := key_inj (HH9.out o' ho') HBY.out he
      subst this
      exact hnin ho'
    have HADD : Hid (addNew os oc = os ++ [oc]) := Lib.hid (by rw [addNew, if_neg hnin])
    have HNK := Lib.hid hnk
    have H2 := Lib.hid h2
    have H4 := Lib.hid h4
    have H5 := Lib.hid h5
    have H6 := Lib.hid h6
    have H7 := Lib.hid h7
    have H8 := Lib.hid h8
    clear h1 h2 h3 h4 h5 h6 h7 h8 h9 BO BK hnin hnk
    go_wp2
    rw [← HWB.out]
    go_quiet (fail)
    rename_i nq
    have hbx := below_drewN wb nq
    obtain ⟨wx, HWX⟩ : ∃ wx, Hid (wb.drewN nq = wx) := ⟨_, rfl⟩
    rw [HWX.out] at hbx ⊢
    have hsz := hbx.size
    have hd : Below wx.heap.size wx wx.drew := ⟨rfl, rfl, rfl, Nat.le_refl _, fun _ _ => rfl⟩
    have M1 := HH3.out.below hbx HH3.out.lt
    have M2 := M1.below hd M1.lt
    have K1 := HB1.out.below hbx HB1.out.lt
    have O1 := HB2.out.below hbx HB2.out.lt
    have Y1 := HB3.out.below hbx HB3.out.lt
    have L1 := H5.out.below hbx
    obtain ⟨w3, hmu, hM3, hg3⟩ := M2.insert keyLaw_oc (t := 102) Tryz.underlying102 (keyO oc) HNK.out (.bool true)
    rw [HKY.out, HKA.out] at hmu
    have K2 := K1.below hd K1.lt
    have O2 := O1.below hd O1.lt
    have K3 : Blk w3 k 104 [.map (some mp), .slice la ln lc] := blk_keep K2 hg3 (fun e => blk_not_map K2 M2 e)
    have O3 : Blk w3 w.heap.size 43 [.slice v m d, .int .i64 en, .int .i64 co] := blk_keep O2 hg3 (fun e => blk_not_map O2 M2 e)
    have L2 := L1.below hd
    have L3 : OwnO w3 B B la ln lc rs os := L2.keep hg3 (own_not_map L2.1 M2) (fun i g hi e => own_not_map (L2.2.2.2 i hi).2.2.2.2.1 M2 g e)
    have C1 := HOC.out.below (HBW.out.trans ((hbx.trans (hd.mono hbx.size)).mono HBW.out.size))
    have C3 : OcOf w3 B ⟨(v, m, d), en, co⟩ oc := ⟨C1.1, C1.2.1, C1.2.2.1, C1.2.2.2.1, C1.2.2.2.2.keep hg3 (own_not_map C1.2.2.2.2.1 M2)⟩
    have T3 : Turn D w w3 := (Turn.of_below (HBW.out.trans ((hbx.trans (hd.mono hbx.size)).mono HBW.out.size))).trans (Turn.of_grown hg3 (fun g e => by injection e with e; rw [← e]; exact H4.out))
    have HT3 := Lib.hid T3
    have HK3 := Lib.hid K3
    have HO3 := Lib.hid O3
    have HL3 := Lib.hid L3
    have HC3 := Lib.hid C3
    have HM3 := Lib.hid hM3
    have hs3 := T3.size
    have k0 := K1.cell (j := 0) rfl
    have y0 := Y1.cell (j := 0) rfl
    have y1 := Y1.cell (j := 1) rfl
    have y2 := Y1.cell (j := 2) rfl
    have l1 := K3.cell (j := 1) rfl
    have lf := K3.frozen 1
    have o0 := O3.cell (j := 0) rfl
    have o1 := O3.cell (j := 1) rfl
    have o2 := O3.cell (j := 2) rfl
    have hln : ln ≤ 100000 := by have := L3.2.2.1; omega
    clear x0 hseen hbx hd M1 M2 K1 O1 Y1 L1 L2 K2 O2 C1 T3 K3 O3 L3 C3 hM3 hg3 HWX HWB
    go_wp2
    go_region
    all_goals clear k0 y0 y1 y2 hmu
    all_goals go_wp2
    all_goals
      have hd3 : Below w3.heap.size w3 w3.drew := ⟨rfl, rfl, rfl, Nat.le_refl _, fun _ _ => rfl⟩
      have HL4 := Lib.hid (HL3.out.below hd3)
      have HK4 := Lib.hid (HK3.out.below hd3 HK3.out.lt)
      have HC4 := Lib.hid (HC3.out.below hd3)
      have l2 := cell_afterX l1 (.cells #[.slice v m d, .int .i64 en, .int .i64 co] 43)
    all_goals
      go_region_law (refine step_pushO _ (by rfl) _ _ (by rfl) B B la ln lc rs os (by rfl) (by exact HL4.out.alloc _) w3.heap.size v m d en co oc (by rfl) (by simp) (by simp) (by simp) (HC4.out.below (belA (Below.refl _ _))) (by omega) (by simp; omega) ?_; intro a8 c8 w8 hown8 hg8; have X8 := blk_row (HK4.out.alloc (.cells #[.slice v m d, .int .i64 en, .int .i64 co] 43)) (HL4.out.alloc (.cells #[.slice v m d, .int .i64 en, .int .i64 co] 43)).1 (by decide) hg8.1; have r1 := X8.cell (j := 1) rfl; have rf := X8.frozen 1)
    all_goals
      have HF := Lib.hid (setW_add HT3.out hd3 HK3.out HM3.out HL3.out HC3.out hown8 hg8 H2.out H4.out H6.out (fun i hi => HDD.out i (by omega)) hB H7.out H8.out HV.out HH9.out HBY.out hs3 X8)
      rw [← HADD.out] at HF
      clear X8 r1 rf hown8 hg8 hd3 HL4 HK4 HC4 l1 l2 lf o0 o1 o2
      go_wp2
      go_end0
      exact ⟨rfl, HF.out⟩
end Go.Proofs.YtmooecbdpfhnlaaGreat
