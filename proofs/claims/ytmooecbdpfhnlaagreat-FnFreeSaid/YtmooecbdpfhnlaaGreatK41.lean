/- Joined texts of this proof (ImplBound, MostMath, BoolAns, SpecMost, FreeMath, ImplOf), in build order. -/
import Derived.Test.YtmooecbdpfhnlaaGreatK33
import Derived.Test.YtmooecbdpfhnlaaGreatK16
import Derived.Test.YtmooecbdpfhnlaaGreatK40
import Derived.Test.YtmooecbdpfhnlaaGreatK28
import Derived.Test.YtmooecbdpfhnlaaGreatK17
import Derived.Test.YtmooecbdpfhnlaaGreatK30
import Derived.Test.YtmooecbdpfhnlaaGreatK12
/- The contracts of the program's boundIn and freeSecrets. -/
namespace Go.Proofs.YtmooecbdpfhnlaaGreat
open Go.RowKit

theorem take_getD (fr : List Bool) (k i : Nat) : (fr.take k).getD i false = if i < k then fr.getD i false else false := by
  rw [List.getD_eq_getElem?_getD, List.getElem?_take]
  split
  · rw [List.getD_eq_getElem?_getD]
  · rfl
theorem bound_zero (fr : List Bool) (zs : List Int) : boundL (fr.take 0) zs = zs := by
  cases zs <;> simp [boundL]
theorem set_zero (zs : List Int) (k i : Nat) : (zs.set k 0).getD i 0 = if k = i then 0 else zs.getD i 0 := by
  rw [List.getD_eq_getElem?_getD, List.getElem?_set, List.getD_eq_getElem?_getD]
  by_cases e : k = i
  · subst e
    by_cases h : k < zs.length <;> simp [h]
  · simp [e]
theorem bound_step {fr : List Bool} {zs : List Int} {k : Nat} : boundL (fr.take (k + 1)) zs = if fr.getD k false then (boundL (fr.take k) zs).set k 0 else boundL (fr.take k) zs := by
  refine ext_getD (by split <;> simp [boundL_len]) (fun i _ => ?_)
  by_cases hf : fr.getD k false = true
  · rw [if_pos hf, set_zero, boundL_getD, boundL_getD, take_getD, take_getD]
    by_cases e : k = i
    · subst e
      rw [if_pos (show k < k + 1 by omega), if_pos hf, if_pos rfl]
    · rw [if_neg e]
      by_cases h1 : i < k
      · rw [if_pos h1, if_pos (show i < k + 1 by omega)]
      · rw [if_neg h1, if_neg (show ¬ i < k + 1 by omega)]
  · rw [if_neg hf, boundL_getD, boundL_getD, take_getD, take_getD]
    by_cases h1 : i < k
    · rw [if_pos h1, if_pos (show i < k + 1 by omega)]
    · rw [if_neg h1]
      by_cases h2 : i < k + 1
      · obtain rfl : i = k := by omega
        rw [if_pos h2, if_neg hf]
        simp
      · rw [if_neg h2]
theorem bound_all {fr : List Bool} {zs : List Int} {n : Nat} (h : zs.length = n) : boundL (fr.take n) zs = boundL fr zs := by
  refine ext_getD (by simp [boundL_len]) (fun i hi => ?_)
  rw [boundL_len] at hi
  rw [boundL_getD, boundL_getD, take_getD, if_pos (show i < n by omega)]
theorem bound_mem {P : Int → Prop} {fs : List Bool} {zs : List Int} (h0 : P 0) (h : ∀ z ∈ zs, P z) : ∀ z ∈ boundL fs zs, P z := by
  intro z hz
  obtain ⟨i, hi, rfl⟩ := List.getElem_of_mem hz
  have e := boundL_getD fs zs i
  rw [boundL_len] at hi
  rw [List.getD_eq_getElem?_getD, List.getElem?_eq_getElem (by rw [boundL_len]; exact hi)] at e
  simp only [Option.getD_some] at e
  rw [e]
  split
  · exact h0
  · rw [List.getD_eq_getElem?_getD, List.getElem?_eq_getElem hi]
    exact h _ (List.getElem_mem hi)
theorem Own.put {w : World} {B g n c k : Nat} {zs : List Int} (h : Own w B (some ⟨g, 0, none⟩) n c zs) (z : Int) (hz : In64 z) : Own (w.setCell ⟨g, k, none⟩ (.int .i64 z)) B (some ⟨g, 0, none⟩) n c (zs.set k z) :=
  ⟨own_put h.1 k z, h.2.1, fun y hy => by
    rcases List.mem_or_eq_of_mem_set hy with hy | rfl
    · exact h.2.2 y hy
    · exact hz⟩
set_option maxHeartbeats 1600000 in
theorem boundIn_any (a af : Option Addr) (n c nf cf : Nat) (zs : List Int) (fr : List Bool) (w : World) (h : Ints w a n zs) (hz : ∀ z ∈ zs, 0 ≤ z ∧ z ≤ 255) (hf : Bools w af nf fr) (hnn : n ≤ nf) (hn : n ≤ 1000) :
    Calls Tryz.prog 58 #[.slice a n c, .slice af nf cf] w fun e w' => e = .returned (.string (strOfNums (boundL fr zs))) ∧ Below w.heap.size w w' := by
  have HL := Lib.hid h.1
  have HZ := Lib.hid hz
  have HI := Lib.hid h
  have HF := Lib.hid hf
  clear h hz hf
  go_enter Tryz.func58, Tryz.ntmps58
  go_wp2_with fail
  refine (cloneInts_any _ _ _ zs _ HI.out).mono ?_
  rintro e w1 ⟨a1, m1, c1, rfl, ho, hb1⟩
  obtain rfl : m1 = n := by rw [← ho.len, HL.out]
  have HO := Lib.hid ho
  have HB1 := Lib.hid hb1
  clear ho hb1
  go_wp2_with fail
  go_loopw [11] (fun i wr => ∃ k : Nat, k ≤ m1 ∧ i = .int .i64 (k : Int) ∧ Own wr w.heap.size a1 m1 c1 (boundL (fr.take k) zs) ∧ Below w.heap.size w wr) (fun i _ => m1 - (intOf i).toNat)
  case atStart => exact ⟨0, Nat.zero_le _, rfl, by rw [bound_zero]; exact HO.out, HB1.out⟩
  case round =>
    clear HO HB1
    obtain ⟨k, hk, rfl, hown, hbel⟩ := hrel
    by_cases hlt : k < m1
    · obtain ⟨bf, of, zf, rfl, hbf, hzf, hcf⟩ := (HF.out.below hbel).at_ (show k < nf by omega)
      have hst := bound_step (fr := fr) (zs := zs) (k := k)
      rw [show fr.getD k false = zf from hzf.out.symm] at hst
      cases zf with
      | true =>
        rw [if_pos rfl] at hst
        obtain ⟨gv, rfl, hcv, hfv, hgv⟩ := own_at (k := k) hown (by rw [hown.len]; exact hlt)
        have HP := Lib.hid (hown.put (k := k) 0 ⟨by omega, by omega⟩)
        rw [← hst] at HP
        have HB := Lib.hid (below_set hbel (b := gv) (j := k) (hown.block gv rfl).1 (.int .i64 0))
        clear hst hown hbel hbf hzf hgv
        go_wp2
        go_roundw
        case rel => exact ⟨k + 1, by omega, by go_num, HP.out, HB.out⟩
        case measure => simp [intOf]; omega
      | false =>
        rw [if_neg (by simp)] at hst
        rw [← hst] at hown
        clear hst hbf hzf
        go_wp2
        go_roundw
        case rel => exact ⟨k + 1, by omega, by go_num, hown, hbel⟩
        case measure => simp [intOf]; omega
    · obtain rfl : m1 = k := by omega
      rw [bound_all HL.out] at hown
      have HC := Lib.hid (bytesOf_any a1 m1 c1 (boundL fr zs) wr hown.ints (bound_mem (by omega) HZ.out) hn)
      clear hown
      go_wp2_with fail
      refine HC.out.mono ?_
      rintro e w2 ⟨rfl, hb2⟩
      have hF := Lib.hid (hbel.trans (hb2.mono hbel.size))
      clear hbel hb2
      go_wp2
      go_ret
      exact ⟨rfl, hF.out⟩
set_option maxHeartbeats 1600000 in
theorem freeSecrets_any (wd tp : Int) (a1 a2 a3 a4 af : Option Addr) (n1 n2 n3 n4 c1 c2 c3 c4 nf cf : Nat) (fr : List Bool) (w : World) (hf : Bools w af nf fr) (hn : n1 ≤ 1000) (hnf : nf ≤ 1000) :
    Calls Tryz.prog 57 #[.agg #[.int .i64 wd, .slice a1 n1 c1, .slice a2 n2 c2, .int .i64 tp, .slice a3 n3 c3, .slice a4 n4 c4], .slice af nf cf] w (MadeB w (List.replicate n1 false ++ fr)) := by
  obtain ⟨wa, HW⟩ : ∃ wa, Hid (wa = w.alloc (.cells #[.int .i64 wd, .slice a1 n1 c1, .slice a2 n2 c2, .int .i64 tp, .slice a3 n3 c3, .slice a4 n4 c4] 31)) := ⟨_, rfl⟩
  have B0 : Blk wa w.heap.size 31 [.int .i64 wd, .slice a1 n1 c1, .slice a2 n2 c2, .int .i64 tp, .slice a3 n3 c3, .slice a4 n4 c4] := by rw [HW.out]; exact Blk.new w _ _
  have HB : Below w.heap.size w wa := by rw [HW.out]; exact (Below.refl _ _).alloc (Nat.le_refl _) _
  have t1 := B0.cell (j := 1) rfl
  rw [HW.out] at t1
  have hmk := fun w => make_bools n1 (by omega) w
  have HOM := Lib.hid (own_madeB wa n1 (by omega))
  obtain ⟨wb, HWB⟩ : ∃ wb, Hid (wb = wa.alloc (.cells (madeCells #[.bool false] n1) 4)) := ⟨_, rfl⟩
  rw [← HWB.out] at HOM
  have hb2 : Below wa.heap.size wa wb := by rw [HWB.out]; exact (Below.refl _ _).alloc (Nat.le_refl _) _
  have HSA : Hid (wa.heap.size = w.heap.size + 1) := Lib.hid (by rw [HW.out]; simp)
  have HSB : Hid (wb.heap.size = w.heap.size + 1 + 1) := Lib.hid (by rw [HWB.out]; simp [HSA.out])
  rw [HSA.out] at HOM
  obtain ⟨wc, HWC⟩ : ∃ wc, Hid (wc = wb.alloc (.cells #[.slice (some ⟨w.heap.size + 1, 0, none⟩) n1 n1, .slice af nf cf] 39)) := ⟨_, rfl⟩
  have hb3 : Below wb.heap.size wb wc := by rw [HWC.out]; exact (Below.refl _ _).alloc (Nat.le_refl _) _
  have X : Blk wc (w.heap.size + 1 + 1) 39 [slV (some ⟨w.heap.size + 1, 0, none⟩, n1, n1), slV (af, nf, cf)] := by rw [HWC.out, ← HSB.out]; exact Blk.new wb _ _
  have HF : Hid (Below w.heap.size w wc) := Lib.hid (HB.trans ((hb2.trans (hb3.mono hb2.size)).mono HB.size))
  have HT := Lib.hid (boolsSS_two X (HOM.out.below hb3).reads (hf.below HF.out))
  have HFL : Hid ((flatB [List.replicate n1 false, fr] 2).length ≤ 1000000) := Lib.hid (by rw [flatB_two, List.length_append, List.length_replicate]; have := hf.1; omega)
  clear B0 HB hb2 hb3 X HOM hf
  go_enter Tryz.func57, Tryz.ntmps57
  go_wp2_with fail
  rw [← HW.out, ← HWB.out, ← HWC.out]
  refine (concatB_any (some ⟨w.heap.size + 1 + 1, 0, none⟩) 2 2 _ _ wc HT.out HFL.out (by omega)).mono ?_
  rintro e w2 ⟨a8, n8, c8, rfl, ho, hb⟩
  have HO := Lib.hid (ho.base HF.out.size)
  have HFF := Lib.hid (HF.out.trans (hb.mono HF.out.size))
  clear ho hb t1
  go_wp2
  go_ret
  exact ⟨a8, n8, c8, rfl, HO.out, HFF.out⟩
end Go.Proofs.YtmooecbdpfhnlaaGreat
/- The most outcomes: counted as they come, or for the inputs whose free ones are nought: plain mathematics. -/
namespace Go.Proofs.YtmooecbdpfhnlaaGreat
section
variable {α κ : Type} [DecidableEq α] [DecidableEq κ]
/-- How many there are so far of those that are bound as the i-th one. -/
def runN (key : Nat → κ) (out : Nat → α) (i : Nat) : Nat := (diffL (((List.range (i + 1)).filter (fun j => decide (key j = key i))).map out)).length
def fullN (key : Nat → κ) (out : Nat → α) (C k : Nat) : Nat := (diffL (((List.range C).filter (fun j => decide (key j = key k))).map out)).length
end
end Go.Proofs.YtmooecbdpfhnlaaGreat
/- Slices of bools as answers of a law. -/
namespace Go.Proofs.YtmooecbdpfhnlaaGreat
open Go.RowKit

def AnsB (w : World) (bs : List Bool) (e : Ending) (w' : World) : Prop :=
  Below w.heap.size w w' ∧ ∃ s : Sl, e = .returned (slV s) ∧ OwnB w' w.heap.size s.1 s.2.1 s.2.2 bs
end Go.Proofs.YtmooecbdpfhnlaaGreat
/- The contracts of the model's l8Most, MostFor, MostJoint, AllOutcomes, OutcomesOf. -/
namespace Go.Proofs.YtmooecbdpfhnlaaGreat
open Go.RowKit

/-- Are the first j of the free ones nought? -/
def zeroB (L : Nat) (fr : List Bool) (zs : List Int) : Nat → Bool
  | 0 => true
  | j + 1 => zeroB L fr zs j && !(bAt fr j && (zs.getD (L + j) 0 != 0))
/-- How many outcomes there are for the input of number k, where its free ones are nought. -/
noncomputable def freeN (p : Prg) (C L : Nat) (fr : List Bool) (k : Nat) : Nat :=
  if zeroB L fr (intsAt (tabIn p C) k) fr.length then (diffL (pickTo (fun i => fitsB L fr (intsAt (tabIn p C) i) (intsAt (tabIn p C) k)) (tabOut p C) C)).length else 0
end Go.Proofs.YtmooecbdpfhnlaaGreat
/- The most outcomes over all inputs, as they come and as the model counts them. -/
namespace Go.Proofs.YtmooecbdpfhnlaaGreat
open Go.RowKit

/-- What is bound of the input of a number. -/
def keyN (p : Prg) (fs : List Bool) (i : Nat) : List Int := boundL fs (digs (maxesP p) (i : Int))
end Go.Proofs.YtmooecbdpfhnlaaGreat
/- The contract of the program's OutcomesOf. -/
namespace Go.Proofs.YtmooecbdpfhnlaaGreat
open Go.RowKit Go.Shelf
attribute [local go_sem] Oper.semAt_some

theorem ownsRow_turn {D : Nat → Prop} {w w' : World} {B t size n : Nat} {v : Value} {xs : List Value} (h : w.ownsRow B t size v n xs) (hs : Turn D w w') (hv : ∀ g, v.ownBlock = some g → ¬ D g) : w'.ownsRow B t size v n xs := by
  refine ⟨h.1, ?_⟩
  rcases h.2 with hn | ⟨g, cap, cur, hv', hb, hg, rest⟩
  · exact .inl hn
  · exact .inr ⟨g, cap, cur, hv', hb, (hs.block g (Array.getElem?_eq_some_iff.1 hg).1 (hv g (by rw [hv']; rfl))).trans hg, rest⟩
theorem OwnB.turn {D : Nat → Prop} {w w' : World} {B n c : Nat} {a : Option Addr} {bs : List Bool} (h : OwnB w B a n c bs) (hs : Turn D w w') (hv : ∀ g, (Value.slice a n c).ownBlock = some g → ¬ D g) : OwnB w' B a n c bs := ⟨ownsRow_turn h.1 hs hv, h.2⟩
/-- The different outcomes of the inputs that are bound so. -/
noncomputable def selO (p : Prg) (f : Nat → Bool) (ks : List Nat) : List Oc := diffL ((ks.filter f).map (ocAt p))
/-- Between two rounds. -/
def GoSel (W0 : World) (h1 : Nat) (p : Prg) (f : Nat → Bool) (m : Nat) (pre : List EIn) (W : World) : Prop :=
  (∀ x ∈ pre, (x.k : Int) < prodL (maxesP p)) ∧ m ≤ W.heap.size ∧ W0.heap.size ≤ m ∧ Turn (DD h1 W0.heap.size) W0 W ∧ SetW W (DD h1 m) m W.heap.size (h1 + 1) (selO p f (pre.map EIn.k))
theorem GoSel.span {W0 A B : World} {h1 m : Nat} {p : Prg} {f : Nat → Bool} {pre : List EIn} (h : GoSel W0 h1 p f m pre A) (hs : Span W0.heap.size m A B) (hh : h1 + 1 < W0.heap.size) : GoSel W0 h1 p f m pre B := by
  obtain ⟨q1, q2, q3, q4, q5⟩ := h
  refine ⟨q1, Nat.le_trans q2 hs.size, q3, q4.trans (Turn.of_span hs (fun i h1 _ => .inr (.inr h1))), (q5.turn (Turn.of_span (D := fun i => W0.heap.size ≤ i ∧ i < m) hs (fun i h1 h2 => ⟨h1, h2⟩)) ?_ ?_).up hs.size⟩
  · rintro i (h | h | h) ⟨g1, g2⟩ <;> omega
  · rintro i h _ ⟨g1, g2⟩; omega
theorem selO_snoc (p : Prg) (f : Nat → Bool) (pre : List EIn) (x : EIn) : selO p f ((pre ++ [x]).map EIn.k) = if f x.k then addNew (selO p f (pre.map EIn.k)) (ocAt p x.k) else selO p f (pre.map EIn.k) := by
  unfold selO
  rw [List.map_append, List.filter_append, List.map_append]
  by_cases h : f x.k = true
  · simp [h, diffL_snoc]
  · simp [h]
theorem GoSel.step {W0 A B : World} {h1 m : Nat} {p : Prg} {f : Nat → Bool} {pre : List EIn} {x : EIn} (h : GoSel W0 h1 p f m pre A) (hx : (x.k : Int) < prodL (maxesP p)) (hh : h1 + 1 < W0.heap.size) (hs : SetW B (DD h1 m) m B.heap.size (h1 + 1) (selO p f ((pre ++ [x]).map EIn.k))) (ht : Turn (DD h1 m) A B) :
    A.heap.size ≤ B.heap.size ∧ Stay W0.heap.size m A B ∧ GoSel W0 h1 p f m (pre ++ [x]) B := by
  obtain ⟨q1, q2, q3, q4, q5⟩ := h
  refine ⟨ht.size, fun i g1 g2 => ht.block i (by omega) (by rintro (h | h | h) <;> omega), ?_, Nat.le_trans q2 ht.size, q3, q4.trans (ht.mono (fun i h => ?_)), hs⟩
  · intro y hy
    rcases List.mem_append.1 hy with hy | hy
    · exact q1 y hy
    · rw [List.mem_singleton] at hy; subst hy; exact hx
  · rcases h with h | h | h
    · exact .inl h
    · exact .inr (.inl h)
    · exact .inr (.inr (by omega))
theorem GoSel.few {W0 A : World} {h1 m : Nat} {p : Prg} {f : Nat → Bool} {pre : List EIn} (h : GoSel W0 h1 p f m pre A) (hz : codeB p = 0) : (selO p f (pre.map EIn.k)).length ≤ 100000 := by
  have h1024 := prod_bits hz
  have hs : ∀ o ∈ selO p f (pre.map EIn.k), o ∈ tabOut p (prodL (maxesP p)).toNat := by
    intro o ho
    obtain ⟨k, hk, rfl⟩ := List.mem_map.1 ((mem_diffL _).1 ho)
    obtain ⟨x, hx, rfl⟩ := List.mem_map.1 (List.mem_filter.1 hk).1
    exact List.mem_map.2 ⟨x.k, List.mem_range.2 (by have := h.1 x hx; omega), rfl⟩
  have := nodup_sub_len (diffL_nodup _) hs
  rw [tabOut, List.length_map, List.length_range] at this
  have hl : (selO p f (pre.map EIn.k)).length ≤ (prodL (maxesP p)).toNat := this
  omega
/-- A round that passes its input over: only new blocks. -/
theorem GoSel.pass {W0 A B : World} {h1 m : Nat} {p : Prg} {f : Nat → Bool} {pre : List EIn} {x : EIn} (h : GoSel W0 h1 p f m pre A) (hx : (x.k : Int) < prodL (maxesP p)) (hh : h1 + 1 < W0.heap.size) (hb : Below A.heap.size A B) (hf : f x.k = false) :
    A.heap.size ≤ B.heap.size ∧ Stay W0.heap.size m A B ∧ GoSel W0 h1 p f m (pre ++ [x]) B := by
  refine h.step hx hh ?_ (Turn.of_below hb)
  rw [selO_snoc, hf]
  exact (h.2.2.2.2.below hb).up hb.size
theorem goSel_round {W0 W W1 : World} {h1 m g : Nat} {p : Prg} {f : Nat → Bool} {pre : List EIn} {x : EIn} {r : PRow} (HG : GoSel W0 h1 p f m pre W) (hb : Below W.heap.size W W1) (hh : h1 + 1 < W0.heap.size) (hp : ProgAt W1 r p) (hcap : r.body.2.1 ≤ r.body.2.2) (hz : codeB p = 0)
    (hx : infoE (maxesP p) (maxesP p).length (W0.heap.size + 2) m x W) (hg : x.a = some ⟨g, 0, none⟩) (hf : f x.k = true) :
    Calls Tryz.prog 62 #[.pointer (some ⟨h1 + 1, 0, none⟩), progV r, .slice (some ⟨g, 0, none⟩) (maxesP p).length x.c] W1 fun e w' => e = .returned (.tuple #[]) ∧ W.heap.size ≤ w'.heap.size ∧ Stay W0.heap.size m W w' ∧ GoSel W0 h1 p f m (pre ++ [x]) w' := by
  have hok : atOk p (x.k : Int) = true := by
    have := hx.2.2.1
    simp [atOk, hz, this]
  have hD : ∀ i, W1.heap.size ≤ i → DD h1 m i := fun i hi => Or.inr (Or.inr (Nat.le_trans HG.2.1 (Nat.le_trans hb.size hi)))
  have hs := at_start hok
  have e1 : atL p (x.k : Int) = (digs (maxesP p) (x.k : Int)).take p.lows.length := by rw [atL, if_pos hok]
  have e2 : atS p (x.k : Int) = (digs (maxesP p) (x.k : Int)).drop p.lows.length := by rw [atS, if_pos hok]
  have hi : Ints W1 (some ⟨g, 0, none⟩) (maxesP p).length (digs (maxesP p) (x.k : Int)) := by rw [← hg]; exact hx.1.ints.below hb
  rw [e1, e2] at hs
  have hset := (HG.2.2.2.2.below hb).up hb.size
  have hmW : m ≤ W1.heap.size := Nat.le_trans HG.2.1 hb.size
  have hxc : (maxesP p).length ≤ x.c := hx.1.cap
  have hll : p.lows.length ≤ (maxesP p).length := by rw [maxesP_len]; omega
  have hfew := HG.few hz
  obtain ⟨os, hos⟩ : ∃ os, selO p f (pre.map EIn.k) = os := ⟨_, rfl⟩
  obtain ⟨zs, hzs⟩ : ∃ zs, digs (maxesP p) (x.k : Int) = zs := ⟨_, rfl⟩
  rw [hos] at hset hfew
  rw [hzs] at hs hi e1 e2
  have hadd := addRun_any W1 (DD h1 m) m W1.heap.size (h1 + 1) os r p g (maxesP p).length x.c zs hset hD hmW hp hcap hi hxc hll hs hfew
  refine hadd.mono ?_
  rintro e w' ⟨rfl, h2, h3⟩
  rw [← e1, ← e2, ← hos] at h2
  exact ⟨rfl, HG.step hx.2.2.1 hh (by rw [selO_snoc, hf]; exact h2) ((Turn.of_below hb).trans h3)⟩
/-- What OutcomesOf tells. -/
noncomputable def ofO (p : Prg) (ls ss : List Int) (fr : List Bool) : List Oc :=
  if (startB p ls ss && decide (fr.length = p.secrets.length)) = true then selO p (fun k => decide (keyN p (List.replicate p.lows.length false ++ fr) k = boundL (List.replicate p.lows.length false ++ fr) (ls ++ ss))) (List.range (prodL (maxesP p)).toNat) else []
theorem key_str (p : Prg) {fs : List Bool} {i : Nat} {zs : List Int} (hz : codeB p = 0) (hi : ∀ z ∈ zs, 0 ≤ z ∧ z ≤ 255) : (strOfNums (boundL fs (digs (maxesP p) (i : Int))) == strOfNums (boundL fs zs)) = decide (keyN p fs i = boundL fs zs) := by
  rw [bytes_beq, Bool.eq_iff_iff, decide_eq_true_iff, decide_eq_true_iff]
  constructor
  · exact fun h => str_inj (bound_mem (by omega) (digs_in _ (wide_of_max hz))) (bound_mem (by omega) hi) h
  · exact fun h => by rw [← h]; rfl
set_option maxRecDepth 100000 in
set_option maxHeartbeats 4000000 in
theorem implOutcomesOf_no (r : PRow) (p : Prg) (a a' af : Option Addr) (n c n' c' nf cf : Nat) (ls ss : List Int) (fr : List Bool) (w : World) (h : ProgAt w r p) (hcap : r.body.2.1 ≤ r.body.2.2) (h1 : Ints w a n ls) (h2 : Ints w a' n' ss) (_hf : Bools w af nf fr) (hno : (startB p ls ss && decide (nf = n')) = false) :
    Calls Tryz.prog 18 #[progV r, .slice a n c, .slice a' n' c', .slice af nf cf] w fun e w' => e = .returned (.slice none 0 0) ∧ Below w.heap.size w w' := by
  have HP := Lib.hid h
  have HI1 := Lib.hid h1
  have HI2 := Lib.hid h2
  have HCAP := Lib.hid hcap
  clear h h1 h2 hcap
  obtain ⟨s, HS⟩ : ∃ s, Hid (startB p ls ss = s) := ⟨_, rfl⟩
  rw [HS.out] at hno
  have HNO := Lib.hid hno
  clear hno
  obtain ⟨wd, ⟨a1, n1, c1⟩, ⟨a2, n2, c2⟩, tp, ⟨a3, n3, c3⟩, ⟨a4, n4, c4⟩, rows⟩ := r
  show Calls Tryz.prog 18 #[.agg #[.int .i64 wd, .slice a1 n1 c1, .slice a2 n2 c2, .int .i64 tp, .slice a3 n3 c3, .slice a4 n4 c4], .slice a n c, .slice a' n' c', .slice af nf cf] w _
  obtain ⟨wa, HW⟩ : ∃ wa, Hid (wa = w.alloc (.cells #[.int .i64 wd, .slice a1 n1 c1, .slice a2 n2 c2, .int .i64 tp, .slice a3 n3 c3, .slice a4 n4 c4] 31)) := ⟨_, rfl⟩
  have B0 : Blk wa w.heap.size 31 [.int .i64 wd, .slice a1 n1 c1, .slice a2 n2 c2, .int .i64 tp, .slice a3 n3 c3, .slice a4 n4 c4] := by rw [HW.out]; exact Blk.new w _ _
  have HB : Below w.heap.size w wa := by rw [HW.out]; exact belA (Below.refl _ _)
  have t0 := B0.cell (j := 0) rfl
  have t1 := B0.cell (j := 1) rfl
  have t2 := B0.cell (j := 2) rfl
  have t3 := B0.cell (j := 3) rfl
  have t4 := B0.cell (j := 4) rfl
  have t5 := B0.cell (j := 5) rfl
  rw [HW.out] at t0 t1 t2 t3 t4 t5
  go_enter Tryz.func18, Tryz.ntmps18
  go_wp2_with fail
  rw [← HW.out]
  refine (implStartOf_ans ⟨wd, (a1, n1, c1), (a2, n2, c2), tp, (a3, n3, c3), (a4, n4, c4), rows⟩ p a a' n c n' c' ls ss _ (HP.out.below HB) HCAP.out (HI1.out.below HB) (HI2.out.below HB)).mono ?_
  rintro e w1 ⟨hb1, ⟨⟨va, vn, vc⟩, ⟨ca, cn, cc⟩, rws⟩, rfl, _⟩
  simp only [envV, slV, HS.out]
  have HF := Lib.hid (HB.trans ((hb1.trans (((Below.refl w1.heap.size w1).alloc (Nat.le_refl _) (.cells #[.slice va vn vc, .slice ca cn cc] 90)).mono hb1.size)).mono HB.size))
  clear t0 t1 t2 t3 t4 t5 B0 HB hb1
  cases s with
  | false =>
    go_wp2
    go_ret
    exact ⟨rfl, HF.out⟩
  | true =>
    have hne : ((nf : Int) != (n' : Int)) = true := by have := HNO.out; simp at this; simp; omega
    go_wp2
    go_ret
    exact ⟨rfl, HF.out⟩
end Go.Proofs.YtmooecbdpfhnlaaGreat
