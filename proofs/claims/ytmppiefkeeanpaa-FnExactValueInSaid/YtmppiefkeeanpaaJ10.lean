/- The laws' own helpers on environments: toInt64SS, toEnv, eqInt64SS, eqEnv; what szInt64SS, szEnv answer; what an argument that is an environment is. -/
import Derived.Test.YtmppiefkeeanpaaJ9
import Derived.Test.YtmppiefkeeanpaaJ8
namespace Go.Proofs.Ytmppiefkeeanpaa
open Go.RowKit Go.ChangeShapes Go.WideShapes

/-- A slice of slices of numbers of the call's own, from block B on. -/
def OwnIS (w : World) (B : Nat) (a : Option Addr) (n c : Nat) (rs : List Sl) (css : List (List Int)) : Prop :=
  w.ownsRow B 28 1 (.slice a n c) n (rs.map slV) ∧ n ≤ 1048576 ∧ css.length = n ∧ ∀ i, i < n → Own w B (slAt rs i).1 (slAt rs i).2.1 (slAt rs i).2.2 (intsAt css i)
section
variable {w w' : World} {B : Nat} {a : Option Addr} {n c : Nat} {rs : List Sl} {css : List (List Int)}
theorem OwnIS.len (h : OwnIS w B a n c rs css) : rs.length = n := by have := h.1.1; simpa using this
theorem OwnIS.reads (h : OwnIS w B a n c rs css) : IntsSS w a n rs css := by
  have hlen := h.len
  obtain ⟨ho, hn, ht, hi⟩ := h
  refine ⟨hlen, ht, hn, fun hp => ?_, fun i h' => (hi i h').ints⟩
  rcases ho.2 with ⟨_, h0⟩ | ⟨g, cap, cur, e, _, hh, _⟩
  · exact absurd hp (by omega)
  · have ea : a = some ⟨g, 0, none⟩ := by injection e
    subst ea
    refine ⟨g, 0, rfl, (ho.lt g rfl).2, fun i h' => ?_⟩
    rw [Nat.zero_add, ho.cellAt i (by omega)]
    simp [slAt, List.getD_eq_getElem?_getD, List.getElem?_eq_getElem (show i < rs.length by omega)]
theorem OwnIS.below (h : OwnIS w B a n c rs css) (hb : Below w.heap.size w w') : OwnIS w' B a n c rs css :=
  ⟨h.1.kept (row := none) ⟨hb.os, hb.tape, hb.output, hb.size, fun k hk _ => hb.block k hk⟩ (by cases a <;> simp [Value.ownBlock]), h.2.1, h.2.2.1, fun i hi => (h.2.2.2 i hi).below hb⟩
theorem OwnIS.set (h : OwnIS w B a n c rs css) {b j : Nat} (hb : b < B) (v : Value) : OwnIS (w.setCell ⟨b, j, none⟩ v) B a n c rs css := by
  refine ⟨h.1.kept (grown_set _ _ _ _) ?_, h.2.1, h.2.2.1, fun i hi => (h.2.2.2 i hi).set hb v⟩
  cases hv : (Value.slice a n c).ownBlock with
  | none => exact .inl rfl
  | some g =>
    refine .inr fun e => ?_
    have := (h.1.lt g hv).1
    injection e with e
    omega
end
theorem info_ints : (Try.prog.info? 28).map (fun i => (i.zero, i.size, i.bytes)) = some (some (.slice none 0 0), 1, 24) := by kernel_rfl
/-- The first rows qs, empty ones behind. -/
def CopyR (qs : List Sl) (n : Nat) : List Sl := qs ++ List.replicate (n - qs.length) (none, 0, 0)
theorem copyR_succ {qs : List Sl} {n : Nat} {r : Sl} (h : qs.length < n) : (CopyR qs n).set qs.length r = CopyR (qs ++ [r]) n := by
  unfold CopyR
  rw [List.set_append_right _ _ (Nat.le_refl _), Nat.sub_self]
  obtain ⟨m, hm⟩ : ∃ m, n - qs.length = m + 1 := ⟨n - qs.length - 1, by omega⟩
  rw [hm, List.replicate_succ, List.set_cons_zero, List.length_append, List.length_singleton, show n - (qs.length + 1) = m by omega, List.append_assoc]
  rfl
theorem copyR_all {qs : List Sl} {n : Nat} (h : qs.length = n) : CopyR qs n = qs := by simp [CopyR, h]
theorem own_putR {w : World} {B g n cap : Nat} {rs : List Sl} (h : w.ownsRow B 28 1 (.slice (some ⟨g, 0, none⟩) n cap) n (rs.map slV)) (k : Nat) (r : Sl) :
    (w.setCell ⟨g, k, none⟩ (slV r)).ownsRow B 28 1 (.slice (some ⟨g, 0, none⟩) n cap) n ((rs.set k r).map slV) := by
  rw [List.map_set]; exact (h.stored k _).1
theorem own_cellR {w : World} {B g n cap : Nat} {rs : List Sl} (h : w.ownsRow B 28 1 (.slice (some ⟨g, 0, none⟩) n cap) n (rs.map slV)) {k : Nat} (hk : k < n) : w.cell? ⟨g, k, none⟩ = some (slV (slAt rs k)) := by
  have hl : rs.length = n := by have := h.1; simpa using this
  rw [h.cellAt k (by omega)]
  simp [slAt, List.getD_eq_getElem?_getD, List.getElem?_eq_getElem (show k < rs.length by omega)]
def RowsI (w : World) (B : Nat) (qs : List Sl) (css : List (List Int)) : Prop := ∀ i, i < qs.length → Own w B (slAt qs i).1 (slAt qs i).2.1 (slAt qs i).2.2 (intsAt css i)
theorem RowsI.succ {w w' : World} {B : Nat} {qs : List Sl} {css : List (List Int)} {r : Sl} (h : RowsI w B qs css) (hb : Below w.heap.size w w') (hr : Own w' w.heap.size r.1 r.2.1 r.2.2 (intsAt css qs.length)) (hB : B ≤ w.heap.size) : RowsI w' B (qs ++ [r]) css := by
  intro i hi
  rcases Nat.lt_or_ge i qs.length with hlt | hge
  · rw [show slAt (qs ++ [r]) i = slAt qs i from getD_left _ _ _ _ hlt]
    exact (h i hlt).below hb
  · have e : i = qs.length := by simp at hi; omega
    subst e
    rw [show slAt (qs ++ [r]) qs.length = r from getD_last _ _ _ _ rfl]
    exact hr.base hB
theorem RowsI.set {w : World} {B : Nat} {qs : List Sl} {css : List (List Int)} (h : RowsI w B qs css) {b j : Nat} (hb : b < B) (v : Value) : RowsI (w.setCell ⟨b, j, none⟩ v) B qs css := fun i hi => (h i hi).set hb v
def MadeIS (w : World) (css : List (List Int)) (e : Ending) (w' : World) : Prop := ∃ a n c rs, e = .returned (.slice a n c) ∧ OwnIS w' w.heap.size a n c rs css ∧ Below w.heap.size w w'

set_option maxHeartbeats 1600000 in
theorem toInt64SS_any (a : Option Addr) (n c : Nat) (rs : List Sl) (css : List (List Int)) (w : World) (h : IntsSS w a n rs css) :
    Calls Try.prog 53 #[.slice a n c] w (MadeIS w css) := by
  have HL := Lib.hid h.2.1
  have hbd := h.2.2.1
  obtain ⟨i0, hi, hz0, hz1, hz2⟩ := info_parts info_ints
  have HI := Lib.hid hi
  have HZ0 := Lib.hid hz0
  have HZ1 := Lib.hid hz1
  have HZ2 := Lib.hid hz2
  clear hi hz0 hz1 hz2
  go_enter Try.func53, Try.ntmps53
  go_wp2_with (at_make; refine wpList_make_full _ rfl _ _ 33 rfl w.heap.size 28 i0 (.slice none 0 0) 1 Try.underlying33 HI.out HZ0.out HZ1.out _ _ _ _ n rfl rfl rfl rfl ?b2 ?b3 ?b4 ?_)
  case b2 => rw [HZ2.out]; omega
  case b3 => unfold maxLen; omega
  case b4 => exact Nat.le_refl _
  intro w1 hown hgrow
  have hb1 : Below w.heap.size w w1 := (Below.refl _ _).grown hgrow (Nat.le_refl _) (fun k hk => by cases hk)
  have HO : w1.ownsRow w.heap.size 28 1 (.slice (some ⟨w.heap.size, 0, none⟩) n n) n ((CopyR [] n).map slV) := by
    have e : (madeCells #[Value.slice none 0 0] n).toList = (CopyR [] n).map slV := by
      rw [toList_madeCells_one]; simp [CopyR, slV]
    rw [← e]; exact hown
  clear hown hgrow
  go_wp2
  go_loopw [4] (fun i wr => ∃ qs : List Sl, qs.length ≤ n ∧ i = .int .i64 qs.length ∧ wr.ownsRow w.heap.size 28 1 (.slice (some ⟨w.heap.size, 0, none⟩) n n) n ((CopyR qs n).map slV) ∧ RowsI wr (w.heap.size + 1) qs css ∧ Below w.heap.size w wr) (fun i _ => n - (intOf i).toNat)
  case atStart => exact ⟨[], Nat.zero_le _, rfl, HO, fun i hi => absurd hi (by simp), hb1⟩
  case round =>
    clear HO hb1
    obtain ⟨qs, hk0, rfl, hown, hrows, hbel⟩ := hrel
    obtain ⟨k, hkk⟩ : ∃ k, k = qs.length := ⟨_, rfl⟩
    have hk : k ≤ n := by omega
    have HK := Lib.hid hkk
    rw [← hkk]
    by_cases hlt : k < n
    · obtain ⟨b, o, a1, n1, c1, rfl, hb, hz, hc1, hI⟩ := (h.below hbel).at_ hlt
      clear hkk
      go_wp2_with fail
      refine (toInt64S_any _ _ _ _ _ hI).mono ?_
      rintro e w2 ⟨p1, q1, d1, rfl, ho1, hb2⟩
      have hsz := (hown.lt w.heap.size rfl).2
      have hown2 : w2.ownsRow w.heap.size 28 1 (.slice (some ⟨w.heap.size, 0, none⟩) n n) n ((CopyR qs n).map slV) := hown.kept (row := none) ⟨hb2.os, hb2.tape, hb2.output, hb2.size, fun k hk _ => hb2.block k hk⟩ (.inr (by simp [Value.ownBlock]))
      have hbel2 : Below w.heap.size w w2 := hbel.trans (hb2.mono hbel.size)
      have hr2 : RowsI w2 (w.heap.size + 1) (qs ++ [(p1, q1, d1)]) css := hrows.succ hb2 (by rw [← HK.out]; exact ho1) (by omega)
      have hd1 := own_cellR hown2 hlt
      generalize slV (slAt (CopyR qs n) k) = y at hd1
      have hf1 := hown2.frozenAt k
      have HO2 := own_putR hown2 k (p1, q1, d1)
      rw [HK.out, copyR_succ (by rw [← HK.out]; exact hlt), ← HK.out] at HO2
      have HR2 := Lib.hid (hr2.set (b := w.heap.size) (j := k) (by omega) (.slice p1 q1 d1))
      have HB2 := Lib.hid (below_set hbel2 (b := w.heap.size) (j := k) (Nat.le_refl _) (.slice p1 q1 d1))
      have HO3 := Lib.hid HO2
      simp only [slV] at HO3
      clear hc1 hown hbel hown2 hbel2 hb2 hI hrows hr2 ho1 HO2
      go_wp2
      go_roundw
      case rel => exact ⟨qs ++ [(p1, q1, d1)], by have := HK.out; simp; omega, by have := HK.out; go_num, HO3.out, HR2.out, HB2.out⟩
      case measure => simp [intOf]; omega
    · obtain rfl : n = k := by omega
      go_wp2
      go_ret
      rw [copyR_all HK.out.symm] at hown
      exact ⟨_, _, _, qs, rfl, ⟨hown, hbd, HL.out, fun i hi => (hrows i (by rw [← HK.out]; exact hi)).base (by omega)⟩, hbel⟩
def EqIS (xss yss : List (List Int)) (k : Nat) : Prop := ∀ i, i < k → intsAt xss i = intsAt yss i
theorem EqIS.succ {xss yss : List (List Int)} {k : Nat} (h : EqIS xss yss k) (e : intsAt xss k = intsAt yss k) : EqIS xss yss (k + 1) := by
  intro i hi
  rcases Nat.lt_or_ge i k with hlt | hge
  · exact h i hlt
  · have : i = k := by omega
    subst this; exact e
theorem eqIS_all {xss yss : List (List Int)} (hl : xss.length = yss.length) (h : EqIS xss yss xss.length) : xss = yss := by
  apply List.ext_getElem hl
  intro i h1 h2
  have := h i h1
  simpa [intsAt, List.getD_eq_getElem?_getD, h1, h2] using this
set_option maxHeartbeats 800000 in
theorem eqInt64SS_any (a b : Option Addr) (n m c d : Nat) (rs qs : List Sl) (xss yss : List (List Int)) (w : World) (hx : IntsSS w a n rs xss) (hy : IntsSS w b m qs yss) :
    Calls Try.prog 57 #[.slice a n c, .slice b m d] w fun e w' => e = .returned (.bool (decide (xss = yss))) ∧ Below w.heap.size w w' := by
  have HL := Lib.hid hx.2.1
  have HM := Lib.hid hy.2.1
  have hbd := hx.2.2.1
  have hbe := hy.2.2.1
  by_cases hnm : n = m
  · subst hnm
    have hne0 : ((n : Int) != (n : Int)) = false := by simp
    go_enter Try.func57, Try.ntmps57
    go_wp2
    go_loopw [5] (fun i wr => ∃ k : Nat, k ≤ n ∧ i = .int .i64 k ∧ EqIS xss yss k ∧ Below w.heap.size w wr) (fun i _ => n - (intOf i).toNat)
    case atStart => exact ⟨0, Nat.zero_le _, rfl, fun i hi => absurd hi (by omega), Below.refl _ _⟩
    case round =>
      obtain ⟨k, hk, rfl, hg, hbel⟩ := hrel
      by_cases hlt : k < n
      · obtain ⟨b1, o1, a1, n1, c1, rfl, hb1, hxk, hc1, hT1⟩ := (hx.below hbel).at_ hlt
        obtain ⟨b2, o2, a2, n2, c2, rfl, hb2, hyk, hc2, hT2⟩ := (hy.below hbel).at_ hlt
        have f1 := lat_cell hb1 hc1
        have f2 := lat_cell hb2 hc2
        clear hc1 hc2
        obtain ⟨q, HQ⟩ : ∃ q, Hid (decide (intsAt xss k = intsAt yss k) = q) := ⟨_, rfl⟩
        have hcon : ∀ p : Lat wr, Calls Try.prog 55 #[.slice a1 n1 c1, .slice a2 n2 c2] p.wd fun e w' => e = .returned (.bool q) ∧ Below p.wd.heap.size p.wd w' := fun p => by
          rw [← HQ.out]
          exact (eqInt64S_any _ _ _ _ _ _ _ _ _ (hT1.below p.ok) (hT2.below p.ok)).mono fun e w' ⟨he, j, hj⟩ => ⟨he, by rw [hj]; exact below_dn (Below.refl _ _) j⟩
        have HC := Lib.hid hcon
        clear hcon hT1 hT2
        cases q with
        | true =>
          have HE := Lib.hid (of_decide_eq_true HQ.out)
          go_wp2
          refine wp_region_lat (by kernel_rfl) (by kernel_rfl) ?_
          repeat (quiet_step ((go_at_call 55; exact lat_calls (HC.out _))))
          refine wpQuiet_nil ?_
          intro _ hw'
          obtain ⟨⟨wq, hwq⟩, hw''⟩ := hw'
          subst hw''
          have ht := hbel.trans (hwq.mono hbel.size)
          clear f1 f2 HC
          go_wp2
          go_roundw
          case rel => exact ⟨k + 1, by omega, by go_num, hg.succ HE.out, ht⟩
          case measure => simp [intOf]; omega
        | false =>
          have HE := Lib.hid (of_decide_eq_false HQ.out)
          go_wp2
          refine wp_region_lat (by kernel_rfl) (by kernel_rfl) ?_
          repeat (quiet_step ((go_at_call 55; exact lat_calls (HC.out _))))
          refine wpQuiet_nil ?_
          intro _ hw'
          obtain ⟨⟨wq, hwq⟩, hw''⟩ := hw'
          subst hw''
          have ht := hbel.trans (hwq.mono hbel.size)
          clear f1 f2 HC
          go_wp2
          go_ret
          exact ⟨ret_bool (decide_eq_false (fun h => HE.out (by rw [h]))).symm, ht⟩
      · obtain rfl : n = k := by omega
        go_wp2
        go_ret
        exact ⟨ret_bool (decide_eq_true (eqIS_all (HL.out.trans HM.out.symm) (by rw [HL.out]; exact hg))).symm, hbel⟩
  · have hne : ((n : Int) != (m : Int)) = true := by simp; omega
    go_enter Try.func57, Try.ntmps57
    go_wp2
    go_ret
    exact ⟨ret_bool (decide_eq_false (fun h => hnm (by rw [← HL.out, ← HM.out, h]))).symm, Below.refl _ _⟩
structure EBox (w wi : World) (c0 c1 : List Value) : Prop where
  one : Blk wi w.heap.size 35 c0
  two : Blk wi (w.heap.size + 1) 35 c1
  bel : Below w.heap.size w wi
theorem EBox.below {w wi wj : World} {c0 c1 : List Value} (h : EBox w wi c0 c1) (hb : Below wi.heap.size wi wj) : EBox w wj c0 c1 :=
  ⟨h.one.below hb h.one.lt, h.two.below hb h.two.lt, h.bel.trans (hb.mono h.bel.size)⟩
theorem ebox_new (w : World) (c0 c1 : List Value) : EBox w ((w.alloc (.cells c0.toArray 35)).alloc (.cells c1.toArray 35)) c0 c1 :=
  ⟨(Blk.new w _ _).alloc _, by simpa using Blk.new (w.alloc _) 35 c1, ((Below.refl _ _).alloc (Nat.le_refl _) _).alloc (by simp) _⟩
/-- eqEnv of what reads alike. -/
theorem eqEnv_same (r q : ERow) (v : Envr) (w : World) (h : EnvAt w r v) (h' : EnvAt w q v) :
    Calls Try.prog 27 #[envV r, envV q] w fun e w' => e = .returned (.bool true) ∧ Below w.heap.size w w' := by
  obtain ⟨⟨a1, n1, c1⟩, ⟨a2, n2, c2⟩, rows⟩ := r
  obtain ⟨⟨b1, m1, d1⟩, ⟨b2, m2, d2⟩, rows'⟩ := q
  obtain ⟨h1, h2⟩ := h
  obtain ⟨h1', h2'⟩ := h'
  simp only [] at h1 h2 h1' h2'
  show Calls Try.prog 27 #[.agg #[.slice a1 n1 c1, .slice a2 n2 c2], .agg #[.slice b1 m1 d1, .slice b2 m2 d2]] w _
  obtain ⟨wa, HW⟩ : ∃ wa, Hid (wa = ((w.alloc (.cells #[.slice a1 n1 c1, .slice a2 n2 c2] 35)).alloc (.cells #[.slice b1 m1 d1, .slice b2 m2 d2] 35))) := ⟨_, rfl⟩
  have BX : EBox w wa [.slice a1 n1 c1, .slice a2 n2 c2] [.slice b1 m1 d1, .slice b2 m2 d2] := by rw [HW.out]; exact ebox_new w _ _
  go_enter Try.func27, Try.ntmps27
  go_wp2_with fail
  rw [← HW.out]
  refine (eqInt64S_any _ _ _ _ _ _ _ _ _ (h1.below BX.bel) (h1'.below BX.bel)).mono ?_
  rintro e w1 ⟨rfl, j, rfl⟩
  have hbj : Below wa.heap.size wa (wa.drewN j) := below_dn (Below.refl _ _) j
  obtain ⟨w1, HW1⟩ : ∃ w1, Hid (wa.drewN j = w1) := ⟨_, rfl⟩
  rw [HW1.out] at hbj ⊢
  have B1 := BX.below hbj
  rw [decide_eq_true rfl]
  clear BX HW HW1 hbj h1 h1'
  have f0 := B1.one.cell (j := 1) rfl
  have f1 := B1.two.cell (j := 1) rfl
  go_wp2_with fail
  refine (eqInt64SS_any _ _ _ _ _ _ _ _ _ _ _ (h2.below B1.bel) (h2'.below B1.bel)).mono ?_
  rintro e w2 ⟨rfl, hb2⟩
  have B2 := B1.below hb2
  rw [decide_eq_true rfl]
  clear B1 hb2 f0 f1
  go_wp2
  go_ret
  exact ⟨rfl, B2.bel⟩
def MadeEnv (w : World) (v : Envr) (e : Ending) (w' : World) : Prop := ∃ r, e = .returned (envV r) ∧ EnvAt w' r v ∧ Below w.heap.size w w'
structure TBox (w wi : World) (c0 c1 c2 : List Value) : Prop where
  arg : Blk wi w.heap.size 52 c0
  res : Blk wi (w.heap.size + 1) 35 c1
  out : Blk wi (w.heap.size + 2) 35 c2
  bel : Below w.heap.size w wi
theorem TBox.below {w wi wj : World} {c0 c1 c2 : List Value} (h : TBox w wi c0 c1 c2) (hb : Below wi.heap.size wi wj) : TBox w wj c0 c1 c2 :=
  ⟨h.arg.below hb h.arg.lt, h.res.below hb h.res.lt, h.out.below hb h.out.lt, h.bel.trans (hb.mono h.bel.size)⟩
theorem TBox.set {w wi : World} {c0 c1 c2 : List Value} (h : TBox w wi c0 c1 c2) (j : Nat) (v : Value) : TBox w (wi.setCell ⟨w.heap.size + 2, j, none⟩ v) c0 c1 (c2.set j v) :=
  ⟨h.arg.other (by omega) v, h.res.other (by omega) v, h.out.set v, below_set h.bel (by omega) v⟩
theorem TBox.lt {w wi : World} {c0 c1 c2 : List Value} (h : TBox w wi c0 c1 c2) : w.heap.size + 2 < wi.heap.size := h.out.lt
theorem tbox_new (w : World) (c0 c1 c2 : List Value) : TBox w (((w.alloc (.cells c0.toArray 52)).alloc (.cells c1.toArray 35)).alloc (.cells c2.toArray 35)) c0 c1 c2 :=
  ⟨((Blk.new w _ _).alloc _).alloc _, (by simpa using Blk.new (w.alloc _) 35 c1 : Blk _ _ _ _).alloc _, by simpa using Blk.new ((w.alloc _).alloc _) 35 c2, (((Below.refl _ _).alloc (Nat.le_refl _) _).alloc (by simp) _).alloc (by simp; omega) _⟩
set_option maxHeartbeats 1600000 in
theorem toEnv_any (r : ERow) (v : Envr) (w : World) (h : EnvAt w r v) : Calls Try.prog 25 #[envV r] w (MadeEnv w v) := by
  obtain ⟨⟨a1, n1, c1⟩, ⟨a2, n2, c2⟩, rows⟩ := r
  obtain ⟨h1, h2⟩ := h
  simp only [] at h1 h2
  show Calls Try.prog 25 #[.agg #[.slice a1 n1 c1, .slice a2 n2 c2]] w _
  obtain ⟨wa, HW⟩ : ∃ wa, Hid (wa = (((w.alloc (.cells #[.slice a1 n1 c1, .slice a2 n2 c2] 52)).alloc (.cells #[.slice none 0 0, .slice none 0 0] 35)).alloc (.cells #[.slice none 0 0, .slice none 0 0] 35))) := ⟨_, rfl⟩
  have BX : TBox w wa [.slice a1 n1 c1, .slice a2 n2 c2] [.slice none 0 0, .slice none 0 0] [.slice none 0 0, .slice none 0 0] := by rw [HW.out]; exact tbox_new w _ _ _
  go_enter Try.func25, Try.ntmps25
  go_wp2_with fail
  rw [← HW.out]
  refine (toInt64S_any _ _ _ _ _ (h1.below BX.bel)).mono ?_
  rintro e w1 ⟨p1, q1, d1, rfl, ho1, hb1⟩
  have B1 := BX.below hb1
  have l1 := BX.lt
  clear HW BX hb1 h1
  have f0 := B1.arg.cell (j := 1) rfl
  have f1 := B1.out.cell (j := 0) rfl
  have f2 := B1.out.frozen 0
  go_wp2_with fail
  obtain ⟨wb, HW⟩ : ∃ wb, Hid (wb = w1.setCell ⟨w.heap.size + 2, 0, none⟩ (.slice p1 q1 d1)) := ⟨_, rfl⟩
  rw [show w.heap.size + 1 + 1 = w.heap.size + 2 from rfl, ← HW.out]
  have C1 := B1.set 0 (.slice p1 q1 d1)
  have o1 := ho1.set (j := 0) l1 (.slice p1 q1 d1)
  rw [← HW.out] at C1 o1
  clear HW B1 ho1 f0 f1 f2
  refine (toInt64SS_any _ _ _ _ _ _ (h2.below C1.bel)).mono ?_
  rintro e w2 ⟨p2, q2, d2, rs, rfl, ho2, hb2⟩
  have B2 := C1.below hb2
  have l2 := C1.lt
  have o1 := o1.below hb2
  clear C1 hb2 h2
  have a0 := B2.res.cell (j := 0) rfl
  have a1 := B2.res.cell (j := 1) rfl
  have z0 := B2.res.frozen 0
  have z1 := B2.res.frozen 1
  have e0 := B2.out.cell (j := 0) rfl
  have e1 := B2.out.cell (j := 1) rfl
  have e2 := B2.out.frozen 1
  have HB := Lib.hid B2.bel
  clear B2
  go_wp2
  refine bodyPost_ret (v := .agg #[.slice p1 q1 d1, .slice p2 q2 d2]) (by simp [results, Try.results25, go_sem, a0, a1]) rfl ?_
  have g1 : w.heap.size + 1 < wa.heap.size := by omega
  have g2 : w.heap.size + 1 < wb.heap.size := by omega
  exact ⟨⟨(p1, q1, d1), (p2, q2, d2), rs⟩, rfl, ⟨(((o1.set l1 _).set g1 _).set g1 _).ints, (((ho2.set l2 _).set g2 _).set g2 _).reads⟩, below_set (below_set (below_set HB.out (by omega) _) (by omega) _) (by omega) _⟩
end Go.Proofs.Ytmppiefkeeanpaa
