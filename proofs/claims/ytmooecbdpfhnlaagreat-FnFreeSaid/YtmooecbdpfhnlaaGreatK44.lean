/- Joined texts of this proof (AllAns, OfAns, FreeLaw, LawInputs), in build order. -/
import Derived.Test.YtmooecbdpfhnlaaGreatK40
import Derived.Test.YtmooecbdpfhnlaaGreatK43
import Derived.Test.YtmooecbdpfhnlaaGreatK42
import Derived.Test.YtmooecbdpfhnlaaGreatK41
import Derived.Test.YtmooecbdpfhnlaaGreatK29
/- The answers of AllOutcomes, as a law asks for them. -/
namespace Go.Proofs.YtmooecbdpfhnlaaGreat
open Go.RowKit

end Go.Proofs.YtmooecbdpfhnlaaGreat
/- The answers of OutcomesOf, as a law asks for them. -/
namespace Go.Proofs.YtmooecbdpfhnlaaGreat
open Go.RowKit

theorem implOutcomesOf_ans (r : PRow) (p : Prg) (a a' af : Option Addr) (n c n' c' nf cf : Nat) (ls ss : List Int) (fr : List Bool) (w : World) (h : ProgAt w r p) (hcap : r.body.2.1 ≤ r.body.2.2) (h1 : Ints w a n ls) (h2 : Ints w a' n' ss) (hf : Bools w af nf fr) :
    Calls Tryz.prog 18 #[progV r, .slice a n c, .slice a' n' c', .slice af nf cf] w (AnsOcs w (ofO p ls ss fr)) := by
  cases hh : (startB p ls ss && decide (nf = n')) with
  | false =>
    refine (implOutcomesOf_no r p a a' af n c n' c' nf cf ls ss fr w h hcap h1 h2 hf hh).mono ?_
    rintro e w' ⟨rfl, hb⟩
    have e0 : ofO p ls ss fr = [] := by
      rw [ofO, if_neg]
      intro h0
      simp only [Bool.and_eq_true, decide_eq_true_eq] at h0
      have hb2 := h0.1
      simp only [startB, Bool.and_eq_true] at hb2
      have := (areB_ok hb2.2.2).1
      have hn : nf = n' := by have := hf.1; have := h2.1; omega
      rw [h0.1, decide_eq_true hn] at hh
      cases hh
    rw [e0]
    exact ⟨hb, ⟨(none, 0, 0), []⟩, rfl, ownO_nil _ _ _, apartO_nil⟩
  | true =>
    simp only [Bool.and_eq_true, decide_eq_true_eq] at hh
    refine (implOutcomesOf_yes r p a a' af n c n' c' nf cf ls ss fr w h hcap h1 h2 hf hh.1 hh.2).mono ?_
    rintro e w' ⟨hb, a, n, c, rs, he, ho, ha⟩
    exact ⟨hb, ⟨(a, n, c), rs⟩, he, ho, ha⟩
end Go.Proofs.YtmooecbdpfhnlaaGreat
/- What FnFree asks, in plain mathematics: fewer bound, no fewer outcomes; nothing free, one outcome; one secret free, no more outcomes than its values. -/
namespace Go.Proofs.YtmooecbdpfhnlaaGreat
open Go.RowKit

theorem one_of {α : Type} {l : List α} {a : α} (hn : l.Nodup) (ha : a ∈ l) (h : ∀ x ∈ l, x = a) : l = [a] := by
  cases l with
  | nil => simp at ha
  | cons x t =>
    obtain rfl := h x List.mem_cons_self
    cases t with
    | nil => rfl
    | cons y t =>
      obtain rfl := h y (List.mem_cons_of_mem _ List.mem_cons_self)
      exact absurd List.mem_cons_self (List.nodup_cons.1 hn).1
theorem digs_inj {p : Prg} (hz : codeB p = 0) {j k : Nat} (hj : (j : Int) < prodL (maxesP p)) (hk : (k : Int) < prodL (maxesP p)) (h : digs (maxesP p) (j : Int) = digs (maxesP p) (k : Int)) : j = k := by
  have hm : ∀ m ∈ maxesP p, 0 ≤ m := fun m hm => (wide_of_max hz m hm).1
  have e1 := numFrom_digs hm (n := (j : Int)) (by omega) hj
  have e2 := numFrom_digs hm (n := (k : Int)) (by omega) hk
  rw [h] at e1
  rw [e1] at e2
  omega
theorem bound_more {fs fs' : List Bool} {a b : List Int} (hl : a.length = b.length) (hf : ∀ i, fs.getD i false = true → fs'.getD i false = true) (h : boundL fs a = boundL fs b) : boundL fs' a = boundL fs' b := by
  refine ext_getD (by rw [boundL_len, boundL_len, hl]) (fun i _ => ?_)
  rw [boundL_getD, boundL_getD]
  have e := congrArg (fun l => l.getD i 0) h
  simp only [boundL_getD] at e
  by_cases h1 : fs'.getD i false = true
  · rw [if_pos h1, if_pos h1]
  · rw [if_neg h1, if_neg h1]
    by_cases h2 : fs.getD i false = true
    · exact absurd (hf i h2) h1
    · rw [if_neg h2, if_neg h2] at e
      exact e
/-- What is told of the inputs that are alike but where it is free. -/
noncomputable def freeO (p : Prg) (fr : List Bool) (k : Nat) : List Oc := selO p (fun j => decide (keyN p (List.replicate p.lows.length false ++ fr) j = keyN p (List.replicate p.lows.length false ++ fr) k)) (List.range (prodL (maxesP p)).toNat)
theorem ofO_free {p : Prg} {fr : List Bool} {k : Nat} (hk : atOk p (k : Int) = true) (hl : fr.length = p.secrets.length) : ofO p (atL p (k : Int)) (atS p (k : Int)) fr = freeO p fr k := by
  have e : (startB p (atL p (k : Int)) (atS p (k : Int)) && decide (fr.length = p.secrets.length)) = true := by rw [at_start hk, decide_eq_true hl]; rfl
  rw [ofO, if_pos e, at_app hk]
  rfl
theorem mem_free {p : Prg} {fr : List Bool} {k : Nat} {o : Oc} : o ∈ freeO p fr k ↔ ∃ j : Nat, (j : Int) < prodL (maxesP p) ∧ keyN p (List.replicate p.lows.length false ++ fr) j = keyN p (List.replicate p.lows.length false ++ fr) k ∧ ocAt p j = o := by
  unfold freeO selO
  rw [mem_diffL, List.mem_map]
  constructor
  · rintro ⟨j, hj, rfl⟩
    obtain ⟨h1, h2⟩ := List.mem_filter.1 hj
    exact ⟨j, by have := List.mem_range.1 h1; omega, by simpa using h2, rfl⟩
  · rintro ⟨j, h1, h2, rfl⟩
    exact ⟨j, List.mem_filter.2 ⟨List.mem_range.2 (by omega), by simpa using h2⟩, rfl⟩
theorem free_nodup (p : Prg) (fr : List Bool) (k : Nat) : (freeO p fr k).Nodup := diffL_nodup _
theorem free_self {p : Prg} (fr : List Bool) {k : Nat} (hk : (k : Int) < prodL (maxesP p)) : ocAt p k ∈ freeO p fr k := mem_free.2 ⟨k, hk, rfl, rfl⟩
theorem free_more {p : Prg} {fr fr' : List Bool} {k : Nat} (hf : ∀ i, fr.getD i false = true → fr'.getD i false = true) {o : Oc} (h : o ∈ freeO p fr k) : o ∈ freeO p fr' k := by
  obtain ⟨j, h1, h2, h3⟩ := mem_free.1 h
  refine mem_free.2 ⟨j, h1, bound_more (by rw [digs_len, digs_len]) (fun i hi => ?_) h2, h3⟩
  rw [all_getD] at hi ⊢
  simp only [Bool.and_eq_true, decide_eq_true_eq] at hi ⊢
  exact ⟨hi.1, hf _ hi.2⟩
theorem free_len {p : Prg} {fr fr' : List Bool} {k : Nat} (hf : ∀ i, fr.getD i false = true → fr'.getD i false = true) : (freeO p fr k).length ≤ (freeO p fr' k).length :=
  nodup_sub_len (free_nodup p fr k) (fun _ h => free_more hf h)
/-- Nothing free. -/
theorem free_none {p : Prg} (hz : codeB p = 0) {fr : List Bool} {k : Nat} (hk : (k : Int) < prodL (maxesP p)) (hf : ∀ i, fr.getD i false = false) : freeO p fr k = [ocAt p k] := by
  refine one_of (free_nodup p fr k) (free_self fr hk) (fun o ho => ?_)
  obtain ⟨j, h1, h2, rfl⟩ := mem_free.1 ho
  have hb : ∀ a : List Int, boundL (List.replicate p.lows.length false ++ fr) a = a := fun a => ext_getD (boundL_len _ _) (fun i _ => by
    rw [boundL_getD, if_neg]
    rw [all_getD, hf]
    simp)
  rw [keyN, keyN, hb, hb] at h2
  rw [digs_inj hz h1 hk h2]
theorem nodup_map_on {l : List Nat} {g : Nat → Nat} (h : l.Nodup) (hi : ∀ x ∈ l, ∀ y ∈ l, g x = g y → x = y) : (l.map g).Nodup := by
  induction l with
  | nil => exact List.nodup_nil
  | cons a l ih =>
    obtain ⟨h1, h2⟩ := List.nodup_cons.1 h
    rw [List.map_cons, List.nodup_cons]
    refine ⟨fun hm => ?_, ih h2 (fun x hx y hy => hi x (List.mem_cons_of_mem _ hx) y (List.mem_cons_of_mem _ hy))⟩
    obtain ⟨y, hy, e⟩ := List.mem_map.1 hm
    have := hi y (List.mem_cons_of_mem _ hy) a List.mem_cons_self e
    subst this
    exact h1 hy
/-- One place free: no more outcomes than it has values. -/
theorem free_one {p : Prg} (hz : codeB p = 0) {fr : List Bool} {k i : Nat} (hi : p.lows.length + i < (maxesP p).length) (hf : ∀ j, fr.getD j false = true → j = i) : ((freeO p fr k).length : Int) ≤ (maxesP p).getD (p.lows.length + i) 0 + 1 := by
  have hm : ∀ m ∈ maxesP p, 0 ≤ m := fun m h => (wide_of_max hz m h).1
  obtain ⟨f, hff⟩ : ∃ f : Nat → Bool, f = fun j => decide (keyN p (List.replicate p.lows.length false ++ fr) j = keyN p (List.replicate p.lows.length false ++ fr) k) := ⟨_, rfl⟩
  obtain ⟨M, hM⟩ : ∃ M : Nat, (maxesP p).getD (p.lows.length + i) 0 = (M : Int) := ⟨((maxesP p).getD (p.lows.length + i) 0).toNat, by have := hm _ (getD_mem hi); omega⟩
  have h0 : (freeO p fr k).length ≤ (((List.range (prodL (maxesP p)).toNat).filter f).map (ocAt p)).length := by
    have := diffL_len (((List.range (prodL (maxesP p)).toNat).filter f).map (ocAt p))
    rw [freeO, selO, ← hff]
    exact this
  rw [List.length_map] at h0
  have h1 : (((List.range (prodL (maxesP p)).toNat).filter f).map (fun j : Nat => ((digs (maxesP p) (j : Int)).getD (p.lows.length + i) 0).toNat)).Nodup := by
    refine nodup_map_on (List.Pairwise.filter _ List.nodup_range) (fun x hx y hy e => ?_)
    obtain ⟨x1, x2⟩ := List.mem_filter.1 hx
    obtain ⟨y1, y2⟩ := List.mem_filter.1 hy
    rw [hff] at x2 y2
    simp only [decide_eq_true_eq] at x2 y2
    have hxl := List.mem_range.1 x1
    have hyl := List.mem_range.1 y1
    refine digs_inj hz (by omega) (by omega) (ext_getD (by rw [digs_len, digs_len]) (fun q hq => ?_))
    rw [digs_len] at hq
    by_cases hqi : q = p.lows.length + i
    · subst hqi
      have a1 := digs_le hm (x : Int) _ hi
      have a2 := digs_le hm (y : Int) _ hi
      omega
    · have e2 := congrArg (fun l => l.getD q 0) (x2.trans y2.symm)
      simp only [keyN, boundL_getD] at e2
      have hno : ¬ (List.replicate p.lows.length false ++ fr).getD q false = true := by
        rw [all_getD]
        intro hh
        simp only [Bool.and_eq_true, decide_eq_true_eq] at hh
        have := hf _ hh.2
        omega
      rw [if_neg hno, if_neg hno] at e2
      exact e2
  have h2 := nodup_sub_len h1 (l' := List.range (M + 1)) (fun q hq => by
    obtain ⟨j, _, rfl⟩ := List.mem_map.1 hq
    have := digs_le hm (j : Int) _ hi
    exact List.mem_range.2 (by omega))
  rw [List.length_map, List.length_range] at h2
  rw [hM]
  omega
/-- Is it among the first k? -/
noncomputable def seenB (l : List Oc) (o : Oc) (k : Nat) : Bool := (List.range k).any (fun t => decide (oAt l t = o))
theorem seenB_succ (l : List Oc) (o : Oc) (k : Nat) : seenB l o (k + 1) = (seenB l o k || decide (oAt l k = o)) := by simp [seenB, List.range_succ]
theorem seenB_all {l : List Oc} {o : Oc} (h : o ∈ l) : seenB l o l.length = true := by
  obtain ⟨i, hi, rfl⟩ := List.getElem_of_mem h
  simp only [seenB, List.any_eq_true, decide_eq_true_eq]
  exact ⟨i, List.mem_range.2 hi, by simp [oAt, List.getD_eq_getElem?_getD, hi]⟩
theorem oAt_ne {l : List Oc} (h : l.Nodup) {i j : Nat} (hi : i < l.length) (hj : j < l.length) (hne : i ≠ j) : oAt l i ≠ oAt l j := by
  intro e
  have hp := List.pairwise_iff_getElem.1 h
  simp only [oAt, List.getD_eq_getElem?_getD, List.getElem?_eq_getElem hi, List.getElem?_eq_getElem hj, Option.getD_some] at e
  rcases Nat.lt_or_ge i j with h1 | h1
  · exact hp i j hi hj h1 e
  · exact hp j i hj hi (by omega) e.symm
theorem bools_two {w : World} {b : Nat} {t : TypeId} {x y : Bool} (h : Blk w b t [.bool x, .bool y]) : Bools w (some ⟨b, 0, none⟩) 2 [x, y] :=
  ⟨rfl, by omega, fun _ => ⟨b, 0, rfl, h.lt, fun i hi => by
    match i, hi with
    | 0, _ => exact h.cell (j := 0) rfl
    | 1, _ => exact h.cell (j := 1) rfl⟩⟩
/-- Two rows of Outcomes. -/
theorem like_rows {E E' : Nat} {v v' : Option Addr} {m m' d d' : Nat} {en co en' co' : Int} {o o' : Oc} (w : World) (h : OcOf w E ⟨(v, m, d), en, co⟩ o) (h' : OcOf w E' ⟨(v', m', d'), en', co'⟩ o') :
    Calls Tryz.prog 20 #[.agg #[.slice v m d, .int .i64 en, .int .i64 co], .agg #[.slice v' m' d', .int .i64 en', .int .i64 co']] w fun e w' => e = .returned (.bool (decide (o = o'))) ∧ Below w.heap.size w w' := by
  refine (implLike_any (v, m, d) (v', m', d') en co en' co' o.1 o'.1 w h.2.2.2.2.ints h'.2.2.2.2.ints).mono ?_
  rintro e w' ⟨rfl, hb⟩
  refine ⟨?_, hb⟩
  have e1 : en = o.2.1 := h.1
  have e2 : co = o.2.2 := h.2.1
  have e3 : en' = o'.2.1 := h'.1
  have e4 : co' = o'.2.2 := h'.2.1
  congr 2
  rw [likeB, e1, e2, e3, e4, Bool.eq_iff_iff]
  obtain ⟨a, b, c⟩ := o
  obtain ⟨a', b', c'⟩ := o'
  simp
end Go.Proofs.YtmooecbdpfhnlaaGreat
/- The contract of the laws' own 'inputs'; places of slices, one by one. -/
namespace Go.Proofs.YtmooecbdpfhnlaaGreat
open Go.RowKit

set_option maxHeartbeats 800000 in
theorem lawInputs_any (r : PRow) (p : Prg) (N : Int) (w : World) (h : ProgAt w r p) (hN : In64 N) :
    Calls Tryz.prog 15 #[progV r, .int .i64 N] w fun e w' => Below w.heap.size w w' ∧ ∃ s t : Sl, e = .returned (.tuple #[slV s, slV t]) ∧ Ints w' s.1 s.2.1 (atL p N) ∧ Ints w' t.1 t.2.1 (atS p N) := by
  have HP := Lib.hid h
  have HN := Lib.hid hN
  clear h hN
  obtain ⟨wd, ⟨a1, n1, c1⟩, ⟨a2, n2, c2⟩, tp, ⟨a3, n3, c3⟩, ⟨a4, n4, c4⟩, rows⟩ := r
  show Calls Tryz.prog 15 #[.agg #[.int .i64 wd, .slice a1 n1 c1, .slice a2 n2 c2, .int .i64 tp, .slice a3 n3 c3, .slice a4 n4 c4], .int .i64 N] w _
  obtain ⟨wa, HW⟩ : ∃ wa, Hid (wa = w.alloc (.cells #[.int .i64 wd, .slice a1 n1 c1, .slice a2 n2 c2, .int .i64 tp, .slice a3 n3 c3, .slice a4 n4 c4] 31)) := ⟨_, rfl⟩
  have HB : Below w.heap.size w wa := by rw [HW.out]; exact (Below.refl _ _).alloc (Nat.le_refl _) _
  have hp := HP.out.below HB
  have HBW := Lib.hid HB
  clear HB
  go_enter Tryz.func15, Tryz.ntmps15
  go_wp2_with fail
  rw [← HW.out]
  refine (specInputAt_ans ⟨wd, (a1, n1, c1), (a2, n2, c2), tp, (a3, n3, c3), (a4, n4, c4), rows⟩ p N _ hp HN.out).mono ?_
  rintro e w1 ⟨hb, ⟨e0a, e0n, e0c⟩, ⟨e1a, e1n, e1c⟩, rfl, hm0, hm1⟩
  simp only [slV]
  have HF := Lib.hid (HBW.out.trans (hb.mono HBW.out.size))
  have HM0 := Lib.hid hm0
  have HM1 := Lib.hid hm1
  clear hb hm0 hm1 hp HW
  go_wp2
  go_ret2
  exact ⟨HF.out, e0a, e0n, e0c, e1a, e1n, ⟨e1c, rfl⟩, HM0.out, HM1.out⟩
end Go.Proofs.YtmooecbdpfhnlaaGreat
