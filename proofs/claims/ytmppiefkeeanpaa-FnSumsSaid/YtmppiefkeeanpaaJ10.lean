/- Joined texts of this proof (EnvCopies, Math, Cmp, Push, Trim, Draw), in build order. -/
import Derived.Test.YtmppiefkeeanpaaJ9
import Derived.Test.YtmppiefkeeanpaaJ8
import Derived.Test.YtmppiefkeeanpaaJ1
import Derived.Test.YtmppiefkeeanpaaJ2
/- The laws' own helpers on environments: toInt64SS, toEnv, eqInt64SS, eqEnv; what szInt64SS, szEnv answer; what an argument that is an environment is. -/
namespace Go.Proofs.Ytmppiefkeeanpaa
open Go.RowKit Go.ChangeShapes Go.WideShapes

/-- A slice of slices of numbers of the call's own, from block B on. -/
def OwnIS (w : World) (B : Nat) (a : Option Addr) (n c : Nat) (rs : List Sl) (css : List (List Int)) : Prop :=
  w.ownsRow B 28 1 (.slice a n c) n (rs.map slV) ∧ n ≤ 1048576 ∧ css.length = n ∧ ∀ i, i < n → Own w B (slAt rs i).1 (slAt rs i).2.1 (slAt rs i).2.2 (intsAt css i)
section
variable {w w' : World} {B : Nat} {a : Option Addr} {n c : Nat} {rs : List Sl} {css : List (List Int)}
theorem OwnIS.len (h : OwnIS w B a n c rs css) : rs.length = n := by have := h.1.1; simpa using this
theorem OwnIS.reads (h : OwnIS w B a n c rs css) : IntsSS w a n rs css := by
  have hlen := h.len
  obtain ⟨ho, hn, ht, hi⟩ := h
  refine ⟨hlen, ht, hn, fun hp => ?_, fun i h' => (hi i h').ints⟩
  rcases ho.2 with ⟨_, h0⟩ | ⟨g, cap, cur, e, _, hh, _⟩
  · exact absurd hp (by omega)
  · have ea : a = some ⟨g, 0, none⟩ := by injection e
    subst ea
    refine ⟨g, 0, rfl, (ho.lt g rfl).2, fun i h' => ?_⟩
    rw [Nat.zero_add, ho.cellAt i (by omega)]
    simp [slAt, List.getD_eq_getElem?_getD, List.getElem?_eq_getElem (show i < rs.length by omega)]
theorem OwnIS.below (h : OwnIS w B a n c rs css) (hb : Below w.heap.size w w') : OwnIS w' B a n c rs css :=
  ⟨h.1.kept (row := none) ⟨hb.os, hb.tape, hb.output, hb.size, fun k hk _ => hb.block k hk⟩ (by cases a <;> simp [Value.ownBlock]), h.2.1, h.2.2.1, fun i hi => (h.2.2.2 i hi).below hb⟩
theorem OwnIS.set (h : OwnIS w B a n c rs css) {b j : Nat} (hb : b < B) (v : Value) : OwnIS (w.setCell ⟨b, j, none⟩ v) B a n c rs css := by
  refine ⟨h.1.kept (grown_set _ _ _ _) ?_, h.2.1, h.2.2.1, fun i hi => (h.2.2.2 i hi).set hb v⟩
  cases hv : (Value.slice a n c).ownBlock with
  | none => exact .inl rfl
  | some g =>
    refine .inr fun e => ?_
    have := (h.1.lt g hv).1
    injection e with e
    omega
end
theorem info_ints : (Try.prog.info? 28).map (fun i => (i.zero, i.size, i.bytes)) = some (some (.slice none 0 0), 1, 24) := by kernel_rfl
/-- The first rows qs, empty ones behind. -/
def CopyR (qs : List Sl) (n : Nat) : List Sl := qs ++ List.replicate (n - qs.length) (none, 0, 0)
theorem copyR_succ {qs : List Sl} {n : Nat} {r : Sl} (h : qs.length < n) : (CopyR qs n).set qs.length r = CopyR (qs ++ [r]) n := by
  unfold CopyR
  rw [List.set_append_right _ _ (Nat.le_refl _), Nat.sub_self]
  obtain ⟨m, hm⟩ : ∃ m, n - qs.length = m + 1 := ⟨n - qs.length - 1, by omega⟩
  rw [hm, List.replicate_succ, List.set_cons_zero, List.length_append, List.length_singleton, show n - (qs.length + 1) = m by omega, List.append_assoc]
  rfl
theorem copyR_all {qs : List Sl} {n : Nat} (h : qs.length = n) : CopyR qs n = qs := by simp [CopyR, h]
theorem own_putR {w : World} {B g n cap : Nat} {rs : List Sl} (h : w.ownsRow B 28 1 (.slice (some ⟨g, 0, none⟩) n cap) n (rs.map slV)) (k : Nat) (r : Sl) :
    (w.setCell ⟨g, k, none⟩ (slV r)).ownsRow B 28 1 (.slice (some ⟨g, 0, none⟩) n cap) n ((rs.set k r).map slV) := by
  rw [List.map_set]; exact (h.stored k _).1
theorem own_cellR {w : World} {B g n cap : Nat} {rs : List Sl} (h : w.ownsRow B 28 1 (.slice (some ⟨g, 0, none⟩) n cap) n (rs.map slV)) {k : Nat} (hk : k < n) : w.cell? ⟨g, k, none⟩ = some (slV (slAt rs k)) := by
  have hl : rs.length = n := by have := h.1; simpa using this
  rw [h.cellAt k (by omega)]
  simp [slAt, List.getD_eq_getElem?_getD, List.getElem?_eq_getElem (show k < rs.length by omega)]
def RowsI (w : World) (B : Nat) (qs : List Sl) (css : List (List Int)) : Prop := ∀ i, i < qs.length → Own w B (slAt qs i).1 (slAt qs i).2.1 (slAt qs i).2.2 (intsAt css i)
theorem RowsI.succ {w w' : World} {B : Nat} {qs : List Sl} {css : List (List Int)} {r : Sl} (h : RowsI w B qs css) (hb : Below w.heap.size w w') (hr : Own w' w.heap.size r.1 r.2.1 r.2.2 (intsAt css qs.length)) (hB : B ≤ w.heap.size) : RowsI w' B (qs ++ [r]) css := by
  intro i hi
  rcases Nat.lt_or_ge i qs.length with hlt | hge
  · rw [show slAt (qs ++ [r]) i = slAt qs i from getD_left _ _ _ _ hlt]
    exact (h i hlt).below hb
  · have e : i = qs.length := by simp at hi; omega
    subst e
    rw [show slAt (qs ++ [r]) qs.length = r from getD_last _ _ _ _ rfl]
    exact hr.base hB
theorem RowsI.set {w : World} {B : Nat} {qs : List Sl} {css : List (List Int)} (h : RowsI w B qs css) {b j : Nat} (hb : b < B) (v : Value) : RowsI (w.setCell ⟨b, j, none⟩ v) B qs css := fun i hi => (h i hi).set hb v
def MadeIS (w : World) (css : List (List Int)) (e : Ending) (w' : World) : Prop := ∃ a n c rs, e = .returned (.slice a n c) ∧ OwnIS w' w.heap.size a n c rs css ∧ Below w.heap.size w w'

set_option maxHeartbeats 1600000 in
theorem toInt64SS_any (a : Option Addr) (n c : Nat) (rs : List Sl) (css : List (List Int)) (w : World) (h : IntsSS w a n rs css) :
    Calls Try.prog 53 #[.slice a n c] w (MadeIS w css) := by
  have HL := Lib.hid h.2.1
  have hbd := h.2.2.1
  obtain ⟨i0, hi, hz0, hz1, hz2⟩ := info_parts info_ints
  have HI := Lib.hid hi
  have HZ0 := Lib.hid hz0
  have HZ1 := Lib.hid hz1
  have HZ2 := Lib.hid hz2
  clear hi hz0 hz1 hz2
  go_enter Try.func53, Try.ntmps53
  go_wp2_with (at_make; refine wpList_make_full _ rfl _ _ 33 rfl w.heap.size 28 i0 (.slice none 0 0) 1 Try.underlying33 HI.out HZ0.out HZ1.out _ _ _ _ n rfl rfl rfl rfl ?b2 ?b3 ?b4 ?_)
  case b2 => rw [HZ2.out]; omega
  case b3 => unfold maxLen; omega
  case b4 => exact Nat.le_refl _
  intro w1 hown hgrow
  have hb1 : Below w.heap.size w w1 := (Below.refl _ _).grown hgrow (Nat.le_refl _) (fun k hk => by cases hk)
  have HO : w1.ownsRow w.heap.size 28 1 (.slice (some ⟨w.heap.size, 0, none⟩) n n) n ((CopyR [] n).map slV) := by
    have e : (madeCells #[Value.slice none 0 0] n).toList = (CopyR [] n).map slV := by
      rw [toList_madeCells_one]; simp [CopyR, slV]
    rw [← e]; exact hown
  clear hown hgrow
  go_wp2
  go_loopw [4] (fun i wr => ∃ qs : List Sl, qs.length ≤ n ∧ i = .int .i64 qs.length ∧ wr.ownsRow w.heap.size 28 1 (.slice (some ⟨w.heap.size, 0, none⟩) n n) n ((CopyR qs n).map slV) ∧ RowsI wr (w.heap.size + 1) qs css ∧ Below w.heap.size w wr) (fun i _ => n - (intOf i).toNat)
  case atStart => exact ⟨[], Nat.zero_le _, rfl, HO, fun i hi => absurd hi (by simp), hb1⟩
  case round =>
    clear HO hb1
    obtain ⟨qs, hk0, rfl, hown, hrows, hbel⟩ := hrel
    obtain ⟨k, hkk⟩ : ∃ k, k = qs.length := ⟨_, rfl⟩
    have hk : k ≤ n := by omega
    have HK := Lib.hid hkk
    rw [← hkk]
    by_cases hlt : k < n
    · obtain ⟨b, o, a1, n1, c1, rfl, hb, hz, hc1, hI⟩ := (h.below hbel).at_ hlt
      clear hkk
      go_wp2_with fail
      refine (toInt64S_any _ _ _ _ _ hI).mono ?_
      rintro e w2 ⟨p1, q1, d1, rfl, ho1, hb2⟩
      have hsz := (hown.lt w.heap.size rfl).2
      have hown2 : w2.ownsRow w.heap.size 28 1 (.slice (some ⟨w.heap.size, 0, none⟩) n n) n ((CopyR qs n).map slV) := hown.kept (row := none) ⟨hb2.os, hb2.tape, hb2.output, hb2.size, fun k hk _ => hb2.block k hk⟩ (.inr (by simp [Value.ownBlock]))
      have hbel2 : Below w.heap.size w w2 := hbel.trans (hb2.mono hbel.size)
      have hr2 : RowsI w2 (w.heap.size + 1) (qs ++ [(p1, q1, d1)]) css := hrows.succ hb2 (by rw [← HK.out]; exact ho1) (by omega)
      have hd1 := own_cellR hown2 hlt
      generalize slV (slAt (CopyR qs n) k) = y at hd1
      have hf1 := hown2.frozenAt k
      have HO2 := own_putR hown2 k (p1, q1, d1)
      rw [HK.out, copyR_succ (by rw [← HK.out]; exact hlt), ← HK.out] at HO2
      have HR2 := Lib.hid (hr2.set (b := w.heap.size) (j := k) (by omega) (.slice p1 q1 d1))
      have HB2 := Lib.hid (below_set hbel2 (b := w.heap.size) (j := k) (Nat.le_refl _) (.slice p1 q1 d1))
      have HO3 := Lib.hid HO2
      simp only [slV] at HO3
      clear hc1 hown hbel hown2 hbel2 hb2 hI hrows hr2 ho1 HO2
      go_wp2
      go_roundw
      case rel => exact ⟨qs ++ [(p1, q1, d1)], by have := HK.out; simp; omega, by have := HK.out; go_num, HO3.out, HR2.out, HB2.out⟩
      case measure => simp [intOf]; omega
    · obtain rfl : n = k := by omega
      go_wp2
      go_ret
      rw [copyR_all HK.out.symm] at hown
      exact ⟨_, _, _, qs, rfl, ⟨hown, hbd, HL.out, fun i hi => (hrows i (by rw [← HK.out]; exact hi)).base (by omega)⟩, hbel⟩
def EqIS (xss yss : List (List Int)) (k : Nat) : Prop := ∀ i, i < k → intsAt xss i = intsAt yss i
theorem EqIS.succ {xss yss : List (List Int)} {k : Nat} (h : EqIS xss yss k) (e : intsAt xss k = intsAt yss k) : EqIS xss yss (k + 1) := by
  intro i hi
  rcases Nat.lt_or_ge i k with hlt | hge
  · exact h i hlt
  · have : i = k := by omega
    subst this; exact e
theorem eqIS_all {xss yss : List (List Int)} (hl : xss.length = yss.length) (h : EqIS xss yss xss.length) : xss = yss := by
  apply List.ext_getElem hl
  intro i h1 h2
  have := h i h1
  simpa [intsAt, List.getD_eq_getElem?_getD, h1, h2] using this
set_option maxHeartbeats 800000 in
theorem eqInt64SS_any (a b : Option Addr) (n m c d : Nat) (rs qs : List Sl) (xss yss : List (List Int)) (w : World) (hx : IntsSS w a n rs xss) (hy : IntsSS w b m qs yss) :
    Calls Try.prog 57 #[.slice a n c, .slice b m d] w fun e w' => e = .returned (.bool (decide (xss = yss))) ∧ Below w.heap.size w w' := by
  have HL := Lib.hid hx.2.1
  have HM := Lib.hid hy.2.1
  have hbd := hx.2.2.1
  have hbe := hy.2.2.1
  by_cases hnm : n = m
  · subst hnm
    have hne0 : ((n : Int) != (n : Int)) = false := by simp
    go_enter Try.func57, Try.ntmps57
    go_wp2
    go_loopw [5] (fun i wr => ∃ k : Nat, k ≤ n ∧ i = .int .i64 k ∧ EqIS xss yss k ∧ Below w.heap.size w wr) (fun i _ => n - (intOf i).toNat)
    case atStart => exact ⟨0, Nat.zero_le _, rfl, fun i hi => absurd hi (by omega), Below.refl _ _⟩
    case round =>
      obtain ⟨k, hk, rfl, hg, hbel⟩ := hrel
      by_cases hlt : k < n
      · obtain ⟨b1, o1, a1, n1, c1, rfl, hb1, hxk, hc1, hT1⟩ := (hx.below hbel).at_ hlt
        obtain ⟨b2, o2, a2, n2, c2, rfl, hb2, hyk, hc2, hT2⟩ := (hy.below hbel).at_ hlt
        have f1 := lat_cell hb1 hc1
        have f2 := lat_cell hb2 hc2
        clear hc1 hc2
        obtain ⟨q, HQ⟩ : ∃ q, Hid (decide (intsAt xss k = intsAt yss k) = q) := ⟨_, rfl⟩
        have hcon : ∀ p : Lat wr, Calls Try.prog 55 #[.slice a1 n1 c1, .slice a2 n2 c2] p.wd fun e w' => e = .returned (.bool q) ∧ Below p.wd.heap.size p.wd w' := fun p => by
          rw [← HQ.out]
          exact (eqInt64S_any _ _ _ _ _ _ _ _ _ (hT1.below p.ok) (hT2.below p.ok)).mono fun e w' ⟨he, j, hj⟩ => ⟨he, by rw [hj]; exact below_dn (Below.refl _ _) j⟩
        have HC := Lib.hid hcon
        clear hcon hT1 hT2
        cases q with
        | true =>
          have HE := Lib.hid (of_decide_eq_true HQ.out)
          go_wp2
          refine wp_region_lat (by kernel_rfl) (by kernel_rfl) ?_
          repeat (quiet_step ((go_at_call 55; exact lat_calls (HC.out _))))
          refine wpQuiet_nil ?_
          intro _ hw'
          obtain ⟨⟨wq, hwq⟩, hw''⟩ := hw'
          subst hw''
          have ht := hbel.trans (hwq.mono hbel.size)
          clear f1 f2 HC
          go_wp2
          go_roundw
          case rel => exact ⟨k + 1, by omega, by go_num, hg.succ HE.out, ht⟩
          case measure => simp [intOf]; omega
        | false =>
          have HE := Lib.hid (of_decide_eq_false HQ.out)
          go_wp2
          refine wp_region_lat (by kernel_rfl) (by kernel_rfl) ?_
          repeat (quiet_step ((go_at_call 55; exact lat_calls (HC.out _))))
          refine wpQuiet_nil ?_
          intro _ hw'
          obtain ⟨⟨wq, hwq⟩, hw''⟩ := hw'
          subst hw''
          have ht := hbel.trans (hwq.mono hbel.size)
          clear f1 f2 HC
          go_wp2
          go_ret
          exact ⟨ret_bool (decide_eq_false (fun h => HE.out (by rw [h]))).symm, ht⟩
      · obtain rfl : n = k := by omega
        go_wp2
        go_ret
        exact ⟨ret_bool (decide_eq_true (eqIS_all (HL.out.trans HM.out.symm) (by rw [HL.out]; exact hg))).symm, hbel⟩
  · have hne : ((n : Int) != (m : Int)) = true := by simp; omega
    go_enter Try.func57, Try.ntmps57
    go_wp2
    go_ret
    exact ⟨ret_bool (decide_eq_false (fun h => hnm (by rw [← HL.out, ← HM.out, h]))).symm, Below.refl _ _⟩
structure EBox (w wi : World) (c0 c1 : List Value) : Prop where
  one : Blk wi w.heap.size 35 c0
  two : Blk wi (w.heap.size + 1) 35 c1
  bel : Below w.heap.size w wi
theorem EBox.below {w wi wj : World} {c0 c1 : List Value} (h : EBox w wi c0 c1) (hb : Below wi.heap.size wi wj) : EBox w wj c0 c1 :=
  ⟨h.one.below hb h.one.lt, h.two.below hb h.two.lt, h.bel.trans (hb.mono h.bel.size)⟩
theorem ebox_new (w : World) (c0 c1 : List Value) : EBox w ((w.alloc (.cells c0.toArray 35)).alloc (.cells c1.toArray 35)) c0 c1 :=
  ⟨(Blk.new w _ _).alloc _, by simpa using Blk.new (w.alloc _) 35 c1, ((Below.refl _ _).alloc (Nat.le_refl _) _).alloc (by simp) _⟩
/-- eqEnv of what reads alike. -/
theorem eqEnv_same (r q : ERow) (v : Envr) (w : World) (h : EnvAt w r v) (h' : EnvAt w q v) :
    Calls Try.prog 27 #[envV r, envV q] w fun e w' => e = .returned (.bool true) ∧ Below w.heap.size w w' := by
  obtain ⟨⟨a1, n1, c1⟩, ⟨a2, n2, c2⟩, rows⟩ := r
  obtain ⟨⟨b1, m1, d1⟩, ⟨b2, m2, d2⟩, rows'⟩ := q
  obtain ⟨h1, h2⟩ := h
  obtain ⟨h1', h2'⟩ := h'
  simp only [] at h1 h2 h1' h2'
  show Calls Try.prog 27 #[.agg #[.slice a1 n1 c1, .slice a2 n2 c2], .agg #[.slice b1 m1 d1, .slice b2 m2 d2]] w _
  obtain ⟨wa, HW⟩ : ∃ wa, Hid (wa = ((w.alloc (.cells #[.slice a1 n1 c1, .slice a2 n2 c2] 35)).alloc (.cells #[.slice b1 m1 d1, .slice b2 m2 d2] 35))) := ⟨_, rfl⟩
  have BX : EBox w wa [.slice a1 n1 c1, .slice a2 n2 c2] [.slice b1 m1 d1, .slice b2 m2 d2] := by rw [HW.out]; exact ebox_new w _ _
  go_enter Try.func27, Try.ntmps27
  go_wp2_with fail
  rw [← HW.out]
  refine (eqInt64S_any _ _ _ _ _ _ _ _ _ (h1.below BX.bel) (h1'.below BX.bel)).mono ?_
  rintro e w1 ⟨rfl, j, rfl⟩
  have hbj : Below wa.heap.size wa (wa.drewN j) := below_dn (Below.refl _ _) j
  obtain ⟨w1, HW1⟩ : ∃ w1, Hid (wa.drewN j = w1) := ⟨_, rfl⟩
  rw [HW1.out] at hbj ⊢
  have B1 := BX.below hbj
  rw [decide_eq_true rfl]
  clear BX HW HW1 hbj h1 h1'
  have f0 := B1.one.cell (j := 1) rfl
  have f1 := B1.two.cell (j := 1) rfl
  go_wp2_with fail
  refine (eqInt64SS_any _ _ _ _ _ _ _ _ _ _ _ (h2.below B1.bel) (h2'.below B1.bel)).mono ?_
  rintro e w2 ⟨rfl, hb2⟩
  have B2 := B1.below hb2
  rw [decide_eq_true rfl]
  clear B1 hb2 f0 f1
  go_wp2
  go_ret
  exact ⟨rfl, B2.bel⟩
def MadeEnv (w : World) (v : Envr) (e : Ending) (w' : World) : Prop := ∃ r, e = .returned (envV r) ∧ EnvAt w' r v ∧ Below w.heap.size w w'
structure TBox (w wi : World) (c0 c1 c2 : List Value) : Prop where
  arg : Blk wi w.heap.size 52 c0
  res : Blk wi (w.heap.size + 1) 35 c1
  out : Blk wi (w.heap.size + 2) 35 c2
  bel : Below w.heap.size w wi
theorem TBox.below {w wi wj : World} {c0 c1 c2 : List Value} (h : TBox w wi c0 c1 c2) (hb : Below wi.heap.size wi wj) : TBox w wj c0 c1 c2 :=
  ⟨h.arg.below hb h.arg.lt, h.res.below hb h.res.lt, h.out.below hb h.out.lt, h.bel.trans (hb.mono h.bel.size)⟩
theorem TBox.set {w wi : World} {c0 c1 c2 : List Value} (h : TBox w wi c0 c1 c2) (j : Nat) (v : Value) : TBox w (wi.setCell ⟨w.heap.size + 2, j, none⟩ v) c0 c1 (c2.set j v) :=
  ⟨h.arg.other (by omega) v, h.res.other (by omega) v, h.out.set v, below_set h.bel (by omega) v⟩
theorem TBox.lt {w wi : World} {c0 c1 c2 : List Value} (h : TBox w wi c0 c1 c2) : w.heap.size + 2 < wi.heap.size := h.out.lt
theorem tbox_new (w : World) (c0 c1 c2 : List Value) : TBox w (((w.alloc (.cells c0.toArray 52)).alloc (.cells c1.toArray 35)).alloc (.cells c2.toArray 35)) c0 c1 c2 :=
  ⟨((Blk.new w _ _).alloc _).alloc _, (by simpa using Blk.new (w.alloc _) 35 c1 : Blk _ _ _ _).alloc _, by simpa using Blk.new ((w.alloc _).alloc _) 35 c2, (((Below.refl _ _).alloc (Nat.le_refl _) _).alloc (by simp) _).alloc (by simp; omega) _⟩
set_option maxHeartbeats 1600000 in
theorem toEnv_any (r : ERow) (v : Envr) (w : World) (h : EnvAt w r v) : Calls Try.prog 25 #[envV r] w (MadeEnv w v) := by
  obtain ⟨⟨a1, n1, c1⟩, ⟨a2, n2, c2⟩, rows⟩ := r
  obtain ⟨h1, h2⟩ := h
  simp only [] at h1 h2
  show Calls Try.prog 25 #[.agg #[.slice a1 n1 c1, .slice a2 n2 c2]] w _
  obtain ⟨wa, HW⟩ : ∃ wa, Hid (wa = (((w.alloc (.cells #[.slice a1 n1 c1, .slice a2 n2 c2] 52)).alloc (.cells #[.slice none 0 0, .slice none 0 0] 35)).alloc (.cells #[.slice none 0 0, .slice none 0 0] 35))) := ⟨_, rfl⟩
  have BX : TBox w wa [.slice a1 n1 c1, .slice a2 n2 c2] [.slice none 0 0, .slice none 0 0] [.slice none 0 0, .slice none 0 0] := by rw [HW.out]; exact tbox_new w _ _ _
  go_enter Try.func25, Try.ntmps25
  go_wp2_with fail
  rw [← HW.out]
  refine (toInt64S_any _ _ _ _ _ (h1.below BX.bel)).mono ?_
  rintro e w1 ⟨p1, q1, d1, rfl, ho1, hb1⟩
  have B1 := BX.below hb1
  have l1 := BX.lt
  clear HW BX hb1 h1
  have f0 := B1.arg.cell (j := 1) rfl
  have f1 := B1.out.cell (j := 0) rfl
  have f2 := B1.out.frozen 0
  go_wp2_with fail
  obtain ⟨wb, HW⟩ : ∃ wb, Hid (wb = w1.setCell ⟨w.heap.size + 2, 0, none⟩ (.slice p1 q1 d1)) := ⟨_, rfl⟩
  rw [show w.heap.size + 1 + 1 = w.heap.size + 2 from rfl, ← HW.out]
  have C1 := B1.set 0 (.slice p1 q1 d1)
  have o1 := ho1.set (j := 0) l1 (.slice p1 q1 d1)
  rw [← HW.out] at C1 o1
  clear HW B1 ho1 f0 f1 f2
  refine (toInt64SS_any _ _ _ _ _ _ (h2.below C1.bel)).mono ?_
  rintro e w2 ⟨p2, q2, d2, rs, rfl, ho2, hb2⟩
  have B2 := C1.below hb2
  have l2 := C1.lt
  have o1 := o1.below hb2
  clear C1 hb2 h2
  have a0 := B2.res.cell (j := 0) rfl
  have a1 := B2.res.cell (j := 1) rfl
  have z0 := B2.res.frozen 0
  have z1 := B2.res.frozen 1
  have e0 := B2.out.cell (j := 0) rfl
  have e1 := B2.out.cell (j := 1) rfl
  have e2 := B2.out.frozen 1
  have HB := Lib.hid B2.bel
  clear B2
  go_wp2
  refine bodyPost_ret (v := .agg #[.slice p1 q1 d1, .slice p2 q2 d2]) (by simp [results, Try.results25, go_sem, a0, a1]) rfl ?_
  have g1 : w.heap.size + 1 < wa.heap.size := by omega
  have g2 : w.heap.size + 1 < wb.heap.size := by omega
  exact ⟨⟨(p1, q1, d1), (p2, q2, d2), rs⟩, rfl, ⟨(((o1.set l1 _).set g1 _).set g1 _).ints, (((ho2.set l2 _).set g2 _).set g2 _).reads⟩, below_set (below_set (below_set HB.out (by omega) _) (by omega) _) (by omega) _⟩
end Go.Proofs.Ytmppiefkeeanpaa
/- Plain mathematics of lists of limbs in base 10000: their value, the one list of a number, sums of limbs. No Go text here. -/
namespace Go.Proofs.Ytmppiefkeeanpaa
open Go.RowKit

/-- The value of a list of limbs, the lowest first. -/
def val : List Int → Nat
  | [] => 0
  | z :: r => z.toNat + 10000 * val r

/-- The limbs of a number (with fuel). -/
def toLF : Nat → Nat → List Int
  | 0, _ => []
  | f + 1, n => if n = 0 then [] else ((n % 10000 : Nat) : Int) :: toLF f (n / 10000)
def toL (n : Nat) : List Int := toLF n n

theorem toLF_more : ∀ (f n : Nat), n ≤ f → toLF f n = toLF n n := by
  intro f
  induction f using Nat.strongRecOn with
  | _ f ih =>
    intro n hn
    cases f with
    | zero => have : n = 0 := by omega
              subst this; rfl
    | succ f =>
      cases n with
      | zero => simp [toLF]
      | succ n =>
        simp only [toLF]
        rw [if_neg (by omega), if_neg (by omega)]
        rw [ih f (by omega) ((n + 1) / 10000) (by omega), ih n (by omega) ((n + 1) / 10000) (by omega)]

theorem toL_zero : toL 0 = [] := rfl
theorem toL_pos {n : Nat} (h : 0 < n) : toL n = ((n % 10000 : Nat) : Int) :: toL (n / 10000) := by
  unfold toL
  cases n with
  | zero => omega
  | succ n =>
    rw [toLF, if_neg (by omega), toLF_more n ((n + 1) / 10000) (by omega)]

/-- All limbs are limbs. -/
def Good (l : List Int) : Prop := ∀ z ∈ l, 0 ≤ z ∧ z ≤ 9999
theorem good_of_to {l : List Int} (h : GoodTo l l.length) : Good l := by
  intro z hz
  obtain ⟨i, hi, rfl⟩ := List.getElem_of_mem hz
  have := h i hi
  rw [List.getD_eq_getElem?_getD, List.getElem?_eq_getElem hi] at this
  exact this
theorem Good.to {l : List Int} (h : Good l) : GoodTo l l.length := fun _ hi => h _ (getD_mem hi)
theorem Good.in64 {l : List Int} (h : Good l) : ∀ z ∈ l, In64 z := fun z hz => ⟨by have := h z hz; omega, by have := h z hz; omega⟩
theorem Good.getD {l : List Int} (h : Good l) (i : Nat) : 0 ≤ l.getD i 0 ∧ l.getD i 0 ≤ 9999 := by
  by_cases hi : i < l.length
  · exact h _ (getD_mem hi)
  · rw [List.getD_eq_getElem?_getD, List.getElem?_eq_none (by omega)]; simp
theorem Good.take {l : List Int} (h : Good l) (k : Nat) : Good (l.take k) := fun z hz => h z (List.mem_of_mem_take hz)
theorem good_nil : Good [] := fun z hz => by simp at hz
theorem Good.snoc {l : List Int} {z : Int} (h : Good l) (h0 : 0 ≤ z) (h1 : z ≤ 9999) : Good (l ++ [z]) := by
  intro x hx
  rcases List.mem_append.1 hx with h' | h'
  · exact h x h'
  · rw [List.mem_singleton] at h'; subst h'; exact ⟨h0, h1⟩

/-- No nought at the end. -/
def Tight (l : List Int) : Prop := 0 < l.length → l.getD (l.length - 1) 0 ≠ 0
theorem tight_cons {x y : Int} {r : List Int} (h : Tight (x :: y :: r)) : Tight (y :: r) := by
  intro _
  have := h (by simp)
  simpa [List.getD_eq_getElem?_getD] using this

theorem val_pos {l : List Int} (hg : Good l) (ht : Tight l) (hp : 0 < l.length) : 0 < val l := by
  induction l with
  | nil => simp at hp
  | cons x r ih =>
    cases r with
    | nil =>
      have h1 := ht (by simp)
      have h2 := hg x (by simp)
      simp at h1
      simp [val]; omega
    | cons y r =>
      have := ih (fun z hz => hg z (List.mem_cons_of_mem _ hz)) (tight_cons ht) (by simp)
      simp only [val] at this ⊢; omega

/-- A number has one list of limbs. -/
theorem toL_val {l : List Int} (hg : Good l) (ht : Tight l) : toL (val l) = l := by
  induction l with
  | nil => rfl
  | cons x r ih =>
    have hp := val_pos hg ht (by simp)
    have hx := hg x (by simp)
    have hr : toL (val r) = r := by
      cases r with
      | nil => rfl
      | cons y r => exact ih (fun z hz => hg z (List.mem_cons_of_mem _ hz)) (tight_cons ht)
    rw [toL_pos hp]
    have e1 : val (x :: r) % 10000 = x.toNat := by simp only [val]; omega
    have e2 : val (x :: r) / 10000 = val r := by simp only [val]; omega
    rw [e1, e2, hr]
    congr 1
    omega

theorem val_toL (n : Nat) : val (toL n) = n := by
  induction n using Nat.strongRecOn with
  | _ n ih =>
    by_cases h : 0 < n
    · rw [toL_pos h, val, ih (n / 10000) (by omega)]; omega
    · have : n = 0 := by omega
      subst this; rfl
theorem good_toL (n : Nat) : Good (toL n) := by
  induction n using Nat.strongRecOn with
  | _ n ih =>
    by_cases h : 0 < n
    · rw [toL_pos h]
      intro z hz
      rcases List.mem_cons.1 hz with rfl | hz
      · omega
      · exact ih (n / 10000) (by omega) z hz
    · have : n = 0 := by omega
      subst this; exact good_nil
theorem tight_toL (n : Nat) : Tight (toL n) := by
  induction n using Nat.strongRecOn with
  | _ n ih =>
    by_cases h : 0 < n
    · rw [toL_pos h]
      by_cases h2 : 0 < n / 10000
      · have := ih (n / 10000) (by omega)
        intro _
        rw [toL_pos h2] at this ⊢
        have := this (by simp)
        simpa [List.getD_eq_getElem?_getD] using this
      · intro _
        have e : n / 10000 = 0 := by omega
        rw [e, toL_zero]
        simp; omega
    · have : n = 0 := by omega
      subst this; intro h; simp [toL_zero] at h

theorem okB_iff (l : List Int) : okB l = true ↔ l.length ≤ 100 ∧ Good l ∧ Tight l := by
  constructor
  · intro h
    have := okB_good h
    exact ⟨this.1, good_of_to this.2.1, this.2.2⟩
  · rintro ⟨h1, h2, h3⟩
    by_cases hp : 0 < l.length
    · rw [okB_last h1 h2.to hp rfl]
      simpa using h3 hp
    · exact okB_nil (by omega)
theorem okB_toL (n : Nat) : okB (toL n) = decide ((toL n).length ≤ 100) := by
  by_cases h : (toL n).length ≤ 100
  · rw [decide_eq_true h]; exact (okB_iff _).2 ⟨h, good_toL n, tight_toL n⟩
  · rw [decide_eq_false h, ← Bool.not_eq_true, okB_iff]; exact fun h' => h h'.1
theorem ok_toL {l : List Int} (h : okB l = true) : toL (val l) = l := toL_val ((okB_iff l).1 h).2.1 ((okB_iff l).1 h).2.2

/-! ### The value of what is put together -/
theorem val_append (a b : List Int) : val (a ++ b) = val a + 10000 ^ a.length * val b := by
  induction a with
  | nil => simp [val]
  | cons x r ih =>
    rw [List.cons_append, val, val, ih, List.length_cons, Nat.pow_succ, Nat.mul_add, Nat.mul_comm (10000 ^ r.length) 10000, ← Nat.mul_assoc]
    omega
theorem val_snoc (a : List Int) (z : Int) : val (a ++ [z]) = val a + 10000 ^ a.length * z.toNat := by
  rw [val_append]; simp [val]
theorem val_replicate (n : Nat) : val (List.replicate n 0) = 0 := by
  induction n with
  | zero => rfl
  | succ n ih => rw [List.replicate_succ, val, ih]; rfl
theorem val_lt {l : List Int} (h : Good l) : val l < 10000 ^ l.length := by
  induction l with
  | nil => simp [val]
  | cons x r ih =>
    have := ih (fun z hz => h z (List.mem_cons_of_mem _ hz))
    have hx := h x (by simp)
    rw [val, List.length_cons, Nat.pow_succ]
    omega
theorem take_snoc' (l : List Int) (k : Nat) (h : k < l.length) : l.take (k + 1) = l.take k ++ [l.getD k 0] := by
  rw [List.take_succ_eq_append_getElem h]; simp [List.getD_eq_getElem?_getD, h]
theorem val_take_succ (l : List Int) (k : Nat) : val (l.take (k + 1)) = val (l.take k) + 10000 ^ k * (l.getD k 0).toNat := by
  by_cases h : k < l.length
  · rw [take_snoc' l k h, val_snoc, List.length_take, Nat.min_eq_left (by omega)]
  · rw [List.take_of_length_le (by omega), List.take_of_length_le (by omega), List.getD_eq_getElem?_getD, List.getElem?_eq_none (by omega)]; simp

/-- How long a list is without noughts at its end. -/
def trimLen (l : List Int) : Nat → Nat
  | 0 => 0
  | n + 1 => if l.getD n 0 = 0 then trimLen l n else n + 1
theorem trimLen_le (l : List Int) (n : Nat) : trimLen l n ≤ n := by
  induction n with
  | zero => simp [trimLen]
  | succ n ih => unfold trimLen; split <;> omega
theorem tight_trim (l : List Int) : ∀ n, n ≤ l.length → Tight (l.take (trimLen l n)) := by
  intro n
  induction n with
  | zero => intro _ h; simp [trimLen] at h
  | succ n ih =>
    intro hn
    unfold trimLen
    split
    · exact ih (by omega)
    · rename_i hne
      intro _
      rw [List.length_take, Nat.min_eq_left hn]
      simpa [List.getD_eq_getElem?_getD] using hne
theorem val_trim (l : List Int) : ∀ n, val (l.take (trimLen l n)) = val (l.take n) := by
  intro n
  induction n with
  | zero => simp [trimLen]
  | succ n ih =>
    unfold trimLen
    split
    · rename_i h0
      rw [ih, val_take_succ, h0]; simp
    · rfl
theorem trim_toL {l : List Int} (h : Good l) : l.take (trimLen l l.length) = toL (val l) := by
  have := val_trim l l.length
  rw [List.take_length] at this
  rw [← this, toL_val (h.take _) (tight_trim l _ (Nat.le_refl _))]
theorem toL_len {l : List Int} (h : Good l) : (toL (val l)).length ≤ l.length := by
  rw [← trim_toL h, List.length_take]; exact Nat.min_le_right _ _
theorem toL_len_lt {n k : Nat} (h : n < 10000 ^ k) : (toL n).length ≤ k := by
  induction k generalizing n with
  | zero => have : n = 0 := by simpa using h
            subst this; simp [toL_zero]
  | succ k ih =>
    by_cases hn : 0 < n
    · rw [toL_pos hn, List.length_cons]
      have : n / 10000 < 10000 ^ k := by rw [Nat.pow_succ] at h; omega
      have := ih this; omega
    · have : n = 0 := by omega
      subst this; simp [toL_zero]
end Go.Proofs.Ytmppiefkeeanpaa
/- The contracts of the functions that compare great numbers. -/
namespace Go.Proofs.Ytmppiefkeeanpaa
open Go.RowKit

/-- -1, 0 or 1. -/
def cmpI (x y : Int) : Int := if x < y then -1 else if y < x then 1 else 0
theorem cmpI_lt {x y : Int} (h : x < y) : cmpI x y = -1 := by unfold cmpI; rw [if_pos h]
theorem cmpI_gt {x y : Int} (h : y < x) : cmpI x y = 1 := by unfold cmpI; rw [if_neg (by omega), if_pos h]
theorem cmpI_eq (x : Int) : cmpI x x = 0 := by unfold cmpI; rw [if_neg (by omega), if_neg (by omega)]

/-! ### What the limbs say of the values -/
theorem val_ge {l : List Int} (hg : Good l) (ht : Tight l) (hp : 0 < l.length) : 10000 ^ (l.length - 1) ≤ val l := by
  have e : l = l.take (l.length - 1) ++ [l.getD (l.length - 1) 0] := by
    have := take_snoc' l (l.length - 1) (by omega)
    rw [Nat.sub_add_cancel hp, List.take_length] at this
    exact this
  have h1 := ht hp
  have h2 := (hg.getD (l.length - 1)).1
  have hv : val l = val (l.take (l.length - 1)) + 10000 ^ (l.length - 1) * (l.getD (l.length - 1) 0).toNat := by
    have := val_take_succ l (l.length - 1)
    rw [Nat.sub_add_cancel hp, List.take_length] at this
    exact this
  rw [hv]
  have h3 : 1 ≤ (l.getD (l.length - 1) 0).toNat := by omega
  have := Nat.mul_le_mul_left (10000 ^ (l.length - 1)) h3
  omega
theorem val_lt_of_len {a b : List Int} (ga : Good a) (gb : Good b) (tb : Tight b) (h : a.length < b.length) : val a < val b := by
  have h1 := val_lt ga
  have h2 := val_ge gb tb (by omega)
  have h3 : 10000 ^ a.length ≤ 10000 ^ (b.length - 1) := Nat.pow_le_pow_right (by omega) (by omega)
  omega
/-- From place k on they are alike. -/
def EqFrom (xs ys : List Int) (k : Nat) : Prop := ∀ i, k ≤ i → xs.getD i 0 = ys.getD i 0
theorem EqFrom.pred {xs ys : List Int} {k : Nat} {x y : Int} (h : EqFrom xs ys k) (hp : 0 < k) (hx : Hid (x = xs.getD (k - 1) 0)) (hy : Hid (y = ys.getD (k - 1) 0)) (e : x = y) : EqFrom xs ys (k - 1) := by
  intro i hi
  rcases Nat.lt_or_ge i k with hlt | hge
  · have : i = k - 1 := by omega
    subst this; rw [← hx.out, ← hy.out]; exact e
  · exact h i hge
theorem eqFrom_end {xs ys : List Int} {n : Nat} (hx : xs.length ≤ n) (hy : ys.length ≤ n) : EqFrom xs ys n := by
  intro i hi
  rw [List.getD_eq_getElem?_getD, List.getD_eq_getElem?_getD, List.getElem?_eq_none (by omega), List.getElem?_eq_none (by omega)]
theorem val_split (l : List Int) (k : Nat) : val l = val (l.take k) + 10000 ^ k * val (l.drop k) := by
  by_cases h : k ≤ l.length
  · have := val_append (l.take k) (l.drop k)
    rw [List.take_append_drop, List.length_take, Nat.min_eq_left h] at this
    exact this
  · rw [List.take_of_length_le (by omega), List.drop_of_length_le (by omega)]; simp [val]
theorem val_congr {a b : List Int} (h : ∀ i, a.getD i 0 = b.getD i 0) : val a = val b := by
  induction a generalizing b with
  | nil =>
    induction b with
    | nil => rfl
    | cons y r ih =>
      have h0 := h 0
      simp at h0
      subst h0
      have := ih (fun i => by have := h (i + 1); simpa using this)
      simp only [val] at this ⊢; omega
  | cons x r ih =>
    cases b with
    | nil =>
      have h0 := h 0
      simp at h0
      subst h0
      have := ih (b := []) (fun i => by have := h (i + 1); simpa using this)
      simp only [val] at this ⊢; omega
    | cons y s =>
      have h0 := h 0
      simp at h0
      subst h0
      rw [val, val, ih (fun i => by have := h (i + 1); simpa using this)]
theorem drop_congr {xs ys : List Int} {k : Nat} (h : EqFrom xs ys k) : val (xs.drop k) = val (ys.drop k) := by
  apply val_congr
  intro i
  have := h (k + i) (by omega)
  simpa [List.getD_eq_getElem?_getD, List.getElem?_drop] using this
theorem val_lt_at {xs ys : List Int} {k : Nat} {x y : Int} (gx : Good xs) (hp : 0 < k) (h : EqFrom xs ys k) (hx : Hid (x = xs.getD (k - 1) 0)) (hy : Hid (y = ys.getD (k - 1) 0)) (hlt : x < y) : val xs < val ys := by
  rw [val_split xs k, val_split ys k, drop_congr h]
  have e : k - 1 + 1 = k := by omega
  have h1 := val_take_succ xs (k - 1)
  have h2 := val_take_succ ys (k - 1)
  rw [e] at h1 h2
  rw [h1, h2, ← hx.out, ← hy.out]
  have h3 : val (xs.take (k - 1)) < 10000 ^ (k - 1) := by
    have h4 := val_lt (gx.take (k - 1))
    have h5 : 10000 ^ (xs.take (k - 1)).length ≤ 10000 ^ (k - 1) := Nat.pow_le_pow_right (by omega) (by rw [List.length_take]; omega)
    omega
  have h6 := (gx.getD (k - 1)).1
  rw [← hx.out] at h6
  have h7 : x.toNat + 1 ≤ y.toNat := by omega
  have h8 := Nat.mul_le_mul_left (10000 ^ (k - 1)) h7
  rw [Nat.mul_add] at h8
  omega
theorem val_eq_at {xs ys : List Int} (h : EqFrom xs ys 0) : val xs = val ys := val_congr (fun i => h i (by omega))

/-- What CmpNat answers. -/
def cmpB (xs ys : List Int) : Int := if okB xs = true ∧ okB ys = true then cmpI (val xs) (val ys) else 2

end Go.Proofs.Ytmppiefkeeanpaa
/- Laws for the walk over Try.prog: 'append' of one number to a row of the call's own; an empty row; a cut row. -/
namespace Go.Proofs.Ytmppiefkeeanpaa
open Go.RowKit

theorem info_i64 : (Try.prog.info? 2).map (fun i => (i.zero, i.size, i.bytes)) = some (some (.int .i64 0), 1, 8) := by kernel_rfl

theorem Own.alloc {w : World} {B : Nat} {a : Option Addr} {n c : Nat} {zs : List Int} (h : Own w B a n c zs) (o : Obj) : Own (w.alloc o) B a n c zs := ⟨h.1.alloc o, h.2⟩
theorem own_nil (w : World) (B : Nat) : Own w B none 0 0 [] := ⟨World.ownsRow_nil _ _ _ _, by omega, fun z hz => by simp at hz⟩
theorem own_empty (w : World) (B : Nat) (hB : B ≤ w.heap.size) : Own (w.alloc (.cells #[] 2)) B (some ⟨w.heap.size, 0, none⟩) 0 0 [] :=
  ⟨World.ownsRow_lit w #[] 0 hB (by unfold maxLen; omega) rfl, by omega, fun z hz => by simp at hz⟩
theorem own_one (w : World) (B : Nat) (z : Int) (hz : In64 z) (hB : B ≤ w.heap.size) : Own (w.alloc (.cells #[.int .i64 z] 2)) B (some ⟨w.heap.size, 0, none⟩) 1 1 [z] :=
  ⟨World.ownsRow_lit w #[.int .i64 z] 1 hB (by unfold maxLen; omega) rfl, by omega, fun x hx => by rw [List.mem_singleton] at hx; subst hx; exact hz⟩

/-- The first k numbers of a row of the call's own are such a row. -/
theorem Own.cut {w : World} {B : Nat} {a : Option Addr} {n c k : Nat} {zs : List Int} (h : Own w B a n c zs) (hk : k ≤ n) : Own w B a k c (zs.take k) := by
  have hl := h.len
  obtain ⟨⟨h1, h2⟩, hn, hin⟩ := h
  refine ⟨⟨by simp; omega, ?_⟩, by omega, fun z hz => hin z (List.mem_of_mem_take hz)⟩
  rcases h2 with ⟨e, h0⟩ | ⟨g, cap, cur, e, hb, hg, hnc, hcm, hcs, ht⟩
  · have : k = 0 := by omega
    subst this
    injection e with e1 e2 e3
    subst e1 e3
    exact .inl ⟨rfl, rfl⟩
  · injection e with e1 e2 e3
    subst e1 e3
    refine .inr ⟨g, c, cur, rfl, hb, hg, by omega, hcm, hcs, ?_⟩
    rw [List.map_take, ← ht, List.take_take, Nat.mul_one, Nat.mul_one, Nat.min_eq_left hk]

theorem wpList_push {ops : Array Oper} {rest : List Oper} {o : Oper} {ac : Act} {Q : Exit → Act → World → Prop} (w : World) (hgd : o.guard = none) (s x : Operand)
    (ho : o.op = .call { callee := .builtin .append, args := #[s, x], argTypes := #[28, 28] })
    (B : Nat) (a : Option Addr) (n c : Nat) (zs : List Int) (hs : ac.eval s = .slice a n c) (hown : Own w B a n c zs)
    (g : Nat) (z : Int) (hx : ac.eval x = .slice (some ⟨g, 0, none⟩) 1 1) (hc : w.cell? ⟨g, 0, none⟩ = some (.int .i64 z)) (hz : In64 z) (hn : n < 1048576) (hB : B ≤ w.heap.size)
    (h : ∀ a1 c1 w', Own w' B a1 (n + 1) c1 (zs ++ [z]) → w.grownBy w' (Value.slice a n c).ownBlock → wpList Try.prog ops Q rest (ac.put o.dst (.slice a1 (n + 1) c1)) w') : wpList Try.prog ops Q (o :: rest) ac w := by
  obtain ⟨i0, hi, hz0, hz1, hz2⟩ := info_parts info_i64
  refine wpList_append_own w hgd s x 28 ho B 2 i0 (.int .i64 0) 1 8 Try.underlying28 hi hz0 hz1 hz2 rfl (by omega) (.slice a n c) n (zs.map (Value.int .i64)) hs hown.1
    ⟨g, 0, none⟩ 1 1 [.int .i64 z] hx rfl ?_ ?_ ?_ ?_ hB ?_
  · intro j u hj
    match j, hj with
    | 0, hj => simp at hj; subst hj; simpa [Addr.add] using hc
  · intro u hu; simp at hu; subst hu; rfl
  · unfold maxLen; omega
  · omega
  · intro v' w' h1 h2 _
    have hf : ∃ a1 c1, v' = .slice a1 (n + 1) c1 := by
      rcases h1.2 with ⟨_, h0⟩ | ⟨g', cap, cur, e, _⟩
      · omega
      · exact ⟨_, _, e⟩
    obtain ⟨a1, c1, rfl⟩ := hf
    refine h a1 c1 w' ⟨by simpa using h1, by omega, fun y hy => ?_⟩ h2
    rcases List.mem_append.1 hy with hy | hy
    · exact hown.2.2 y hy
    · rw [List.mem_singleton] at hy; subst hy; exact hz

/-- Behind such an append: what lies below B is as it was. -/
theorem below_push {w0 w w' : World} {B : Nat} {a : Option Addr} {n c : Nat} {zs : List Int} (hb : Below B w0 w) (hown : Own w B a n c zs) (hB : B ≤ w.heap.size) (hg : w.grownBy w' (Value.slice a n c).ownBlock) : Below B w0 w' :=
  hb.grown hg hB (fun k hk => (hown.block k hk).1)

theorem Own.cap {w : World} {B : Nat} {a : Option Addr} {n c : Nat} {zs : List Int} (h : Own w B a n c zs) : n ≤ c := by
  rcases h.1.2 with ⟨e, h0⟩ | ⟨g, cap, cur, e, hb, hg, hnc, _⟩
  · omega
  · injection e with e1 e2 e3
    omega

theorem run_append_nothing (w : World) (ty : TypeId) (v : Value) (B n : Nat) (xs : List Value) (hown : w.ownsRow B 2 1 v n xs) (c : Nat) : (Builtin.append_ #[28, 28] ty #[v, .slice none 0 c]).run Try.prog w = .ok v w := by
  obtain ⟨i0, hi, hz0, hz1, hz2⟩ := info_parts info_i64
  rcases hown.2 with ⟨rfl, rfl⟩ | ⟨g, cap, cur, rfl, _, _, hnc, _⟩
  · simp [Builtin.append_, run_underlying Try.underlying28, sizeOf, typeInfo, hi, Builtin.lenOf, Builtin.firstCells]
  · simp [Builtin.append_, run_underlying Try.underlying28, sizeOf, typeInfo, hi, Builtin.lenOf, Builtin.firstCells, hnc, storeCells]

set_option maxRecDepth 100000 in
/-- 'append(out, xs...)': out a row of the call's own, xs whatever slice of numbers. -/
theorem wpList_concat {ops : Array Oper} {rest : List Oper} {o : Oper} {ac : Act} {Q : Exit → Act → World → Prop} (w : World) (hgd : o.guard = none) (s x : Operand)
    (ho : o.op = .call { callee := .builtin .append, args := #[s, x], argTypes := #[28, 28] })
    (B : Nat) (a : Option Addr) (n c : Nat) (zs : List Int) (hs : ac.eval s = .slice a n c) (hown : Own w B a n c zs)
    (a2 : Option Addr) (m c2 : Nat) (ys : List Int) (hx : ac.eval x = .slice a2 m c2) (hi2 : Ints w a2 m ys) (hn : n + m ≤ 1048576) (hB : B ≤ w.heap.size)
    (h : ∀ a1 c1 w', Own w' B a1 (n + m) c1 (zs ++ ys) → w.grownBy w' (Value.slice a n c).ownBlock → wpList Try.prog ops Q rest (ac.put o.dst (.slice a1 (n + m) c1)) w') : wpList Try.prog ops Q (o :: rest) ac w := by
  have hin : ∀ y ∈ zs ++ ys, In64 y := fun y hy => by
    rcases List.mem_append.1 hy with hy | hy
    · exact hown.2.2 y hy
    · exact hi2.2.2.1 y hy
  cases a2 with
  | none =>
    have hm : m = 0 := by
      rcases Nat.eq_zero_or_pos m with h0 | h0
      · exact h0
      · obtain ⟨b, o', e, _⟩ := hi2.2.2.2 h0
        cases e
    subst hm
    have hys : ys = [] := List.eq_nil_of_length_eq_zero hi2.1
    subst hys
    refine wpList_plain hgd fun K hK' => ?_
    have hrun := run_append_nothing w o.type (.slice a n c) B n _ hown.1 c2
    unfold Oper.wp
    simp [execOp, ho, resolve, invoke, builtin, hs, hx, hrun, Result.andThen]
    exact hK' _ _ (by simpa using h a c w (by simpa using hown) (World.grownBy.refl _ _))
  | some ad =>
    obtain ⟨i0, hi, hz0, hz1, hz2⟩ := info_parts info_i64
    have hl := hi2.1
    refine wpList_append_own w hgd s x 28 ho B 2 i0 (.int .i64 0) 1 8 Try.underlying28 hi hz0 hz1 hz2 rfl (by omega) (.slice a n c) n (zs.map (Value.int .i64)) hs hown.1
      ad m c2 (ys.map (Value.int .i64)) hx (by simp [hl]) ?_ (ints_oneCell _ _) ?_ ?_ hB ?_
    · intro j u hj
      have hjl : j < ys.length := by have := (List.getElem?_eq_some_iff.1 hj).1; simpa using this
      obtain ⟨b, off, e, _, hc⟩ := hi2.2.2.2 (by omega)
      injection e with e
      subst e
      rw [Go.WideShapes.add_plain, hc j (by omega), ← hj]
      simp [List.getD_eq_getElem?_getD, hjl]
    · unfold maxLen; omega
    · omega
    · intro v' w' h1 h2 _
      have hf : ∃ a1 c1, v' = .slice a1 (n + m) c1 := by
        rcases h1.2 with ⟨e, h0⟩ | ⟨g', cap, cur, e, _⟩
        · exact ⟨none, 0, by rw [e, h0]⟩
        · exact ⟨_, _, e⟩
      obtain ⟨a1, c1, rfl⟩ := hf
      exact h a1 c1 w' ⟨by simpa using h1, hn, hin⟩ h2
end Go.Proofs.Ytmppiefkeeanpaa
/- The contracts of the two functions that strike noughts at the end. -/
namespace Go.Proofs.Ytmppiefkeeanpaa
open Go.RowKit

theorem trimLen_zero {l : List Int} {k n : Nat} {z : Int} (h : trimLen l k = trimLen l n) (hp : 0 < k) (hz : Hid (z = l.getD (k - 1) 0)) (h0 : z = 0) : trimLen l (k - 1) = trimLen l n := by
  rw [← h]
  have e : k = k - 1 + 1 := by omega
  have hz' := hz.out
  rw [h0] at hz'
  rw [e, trimLen, if_pos hz'.symm]; simp
theorem trimLen_stop {l : List Int} {k n : Nat} {z : Int} (h : trimLen l k = trimLen l n) (hp : 0 < k) (hz : Hid (z = l.getD (k - 1) 0)) (h0 : z ≠ 0) : trimLen l n = k := by
  rw [← h]
  have e : k = k - 1 + 1 := by omega
  have hz' := hz.out
  rw [e, trimLen, if_neg (by rw [← hz']; exact h0)]
theorem ret_slice {a : Option Addr} {n m c : Nat} (h : n = m) : Ending.returned (.slice a n c) = .returned (.slice a m c) := by rw [h]

theorem ints_cut {w : World} {a : Option Addr} {n : Nat} {zs : List Int} {o : Obj} (k : Nat) (h : Ints w a n zs) (hk : k ≤ n) : Ints (w.alloc o) a k (zs.take k) := by
  obtain ⟨hl, hn, hin, hc⟩ := h
  refine ⟨by rw [List.length_take]; omega, by omega, fun z hz => hin z (List.mem_of_mem_take hz), fun hp => ?_⟩
  obtain ⟨b, off, rfl, hb, hcell⟩ := hc (by omega)
  refine ⟨b, off, rfl, by simp; omega, fun i hi => ?_⟩
  rw [World.cell?_alloc_lt w o ⟨b, off + i, none⟩ hb, hcell i (by omega)]
  simp [List.getD_eq_getElem?_getD, hi]

end Go.Proofs.Ytmppiefkeeanpaa
/- The contracts of the model's draws: a cursor over bytes; numbers below a bound. What is drawn is not told, only that it is within its bounds. -/
namespace Go.Proofs.Ytmppiefkeeanpaa
open Go.RowKit

theorem and_mask (x : Int) (m : Nat) (hm : m < 2147483648) : 0 ≤ bits .and .i64 x (m : Int) ∧ bits .and .i64 x (m : Int) ≤ m := by
  have h1 : (BitVec.ofInt 64 (m : Int)).toNat = m := by
    rw [BitVec.ofInt_natCast, BitVec.toNat_ofNat]; exact Nat.mod_eq_of_lt (by omega)
  have h2 : ((BitVec.ofInt 64 x) &&& (BitVec.ofInt 64 (m : Int))).toNat ≤ m := by
    rw [BitVec.toNat_and, h1]; exact Nat.and_le_right
  show 0 ≤ IntKind.i64.wrap ((BitVec.ofInt 64 x &&& BitVec.ofInt 64 (m : Int)).toNat : Int) ∧ IntKind.i64.wrap ((BitVec.ofInt 64 x &&& BitVec.ofInt 64 (m : Int)).toNat : Int) ≤ m
  rw [IntWalk.i64_in _ (by omega)]
  omega
theorem and255 (x : Int) : 0 ≤ bits .and .i64 x 255 ∧ bits .and .i64 x 255 ≤ 255 := and_mask x 255 (by omega)
theorem and30 (x : Int) : 0 ≤ bits .and .i64 x 1073741823 ∧ bits .and .i64 x 1073741823 ≤ 1073741823 := and_mask x 1073741823 (by omega)
theorem in64_wrap (x : Int) : In64 (wrap64 x) := by
  have := bounds_i64 (wrap64_wf x)
  exact ⟨this.1, this.2⟩

/-- The bytes of the code, as the cursor at block p reads them. -/
def CodeAt (w : World) (p : Nat) (a : Option Addr) (n : Nat) : Prop :=
  n ≤ 4096 ∧ (0 < n → ∃ b o, a = some ⟨b, o, none⟩ ∧ b < p ∧ ∀ i, i < n → ∃ z : Int, 0 ≤ z ∧ z ≤ 255 ∧ w.cell? ⟨b, o + i, none⟩ = some (.int .u8 z))
theorem CodeAt.only {w w' : World} {p : Nat} {a : Option Addr} {n : Nat} (h : CodeAt w p a n) (hg : w.grownBy w' (some p)) : CodeAt w' p a n := by
  refine ⟨h.1, fun h0 => ?_⟩
  obtain ⟨b, o, rfl, hb, hc⟩ := h.2 h0
  refine ⟨b, o, rfl, hb, fun i hi => ?_⟩
  obtain ⟨z, h1, h2, h3⟩ := hc i hi
  exact ⟨z, h1, h2, hg.cell h3 (by simp; omega)⟩
theorem only_trans {a b c : World} {p : Nat} (h : a.grownBy b (some p)) (k : b.grownBy c (some p)) : a.grownBy c (some p) :=
  ⟨k.os.trans h.os, k.tape.trans h.tape, k.output.trans h.output, Nat.le_trans h.size k.size, fun i hi hne => (k.block i (Nat.lt_of_lt_of_le hi h.size) hne).trans (h.block i hi hne)⟩
theorem only_draw {a b : World} {p : Nat} (h : a.grownBy b (some p)) (n : Nat) : a.grownBy (b.drewN n) (some p) := ⟨h.os, h.tape, h.output, h.size, h.block⟩
theorem only_put (w : World) (p j : Nat) (u : Value) : w.grownBy (w.setCell ⟨p, j, none⟩ u) (some p) :=
  ⟨rfl, rfl, rfl, by simp, fun k _ hk => heap_setCell_other w ⟨p, j, none⟩ k u (fun e => hk (by simp [e]))⟩

theorem cur_only (w : World) (p k : Nat) (u : Value) : w.grownBy ((w.drewN k).setCell ⟨p, 1, none⟩ u) (some p) := only_trans (only_draw (World.grownBy.refl w (some p)) k) (only_put (w.drewN k) p 1 u)
theorem cur_step (w : World) (p k : Nat) (v : Value) (i : Nat) (h : Int) (t : TypeId) (hb : w.heap[p]? = some (.cells #[v, .int .i64 (i : Int), .int .i64 h] t (0, 0))) :
    ((w.drewN k).setCell ⟨p, 1, none⟩ (.int .i64 ((i : Int) + 1))).heap[p]? = some (.cells #[v, .int .i64 ((i + 1 : Nat) : Int), .int .i64 h] t (0, 0)) := by
  rw [heap_setCell_same (w.drewN k) p 1 _ _ _ hb]; rfl

theorem own_lit (w : World) (B : Nat) (zs : List Int) (hz : ∀ z ∈ zs, In64 z) (hn : zs.length ≤ 1048576) (hB : B ≤ w.heap.size) :
    Own (w.alloc (.cells (zs.map (Value.int .i64)).toArray 2)) B (some ⟨w.heap.size, 0, none⟩) zs.length zs.length zs := by
  have := World.ownsRow_lit (base := B) (e := 2) (size := 1) w (zs.map (Value.int .i64)).toArray zs.length hB (by unfold maxLen; omega) (by simp)
  exact ⟨by simpa using this, hn, hz⟩
theorem only_below {w w' : World} (h : Below w.heap.size w w') (row : Option Nat) : w.grownBy w' row := ⟨h.os, h.tape, h.output, h.size, fun i hi _ => h.block i hi⟩
theorem only_more {a b c : World} {p : Nat} {row : Option Nat} (h : a.grownBy b (some p)) (k : b.grownBy c row) (hr : ∀ g, row = some g → a.heap.size ≤ g) : a.grownBy c (some p) :=
  ⟨k.os.trans h.os, k.tape.trans h.tape, k.output.trans h.output, Nat.le_trans h.size k.size, fun i hi hne => (k.block i (Nat.lt_of_lt_of_le hi h.size) (fun e => by have := hr i e.symm; omega)).trans (h.block i hi hne)⟩
theorem only_alloc {a b : World} {p : Nat} (h : a.grownBy b (some p)) (o : Obj) : a.grownBy (b.alloc o) (some p) := only_more h (World.grownBy_alloc b o none) (fun g e => by cases e)

/-- A literal of numbers, one of which is drawn. -/
theorem lit_at {w w' : World} {p : Nat} {zs : List Int} {k : Nat} (hz : ∀ z ∈ zs, In64 z) (hn : zs.length ≤ 1048576) (hp : p < w.heap.size)
    (hg : (w.alloc (.cells (zs.map (Value.int .i64)).toArray 2)).grownBy w' (some p)) (hk : k < zs.length) :
    ∃ z, In64 z ∧ Hid (z = zs.getD k 0) ∧ w'.cell? ⟨w.heap.size, k, none⟩ = some (.int .i64 z) := by
  have h1 := (own_lit w w.heap.size zs hz hn (Nat.le_refl _)).other hg (fun g e => by cases e; exact hp)
  obtain ⟨b, o, z, e, _, hz, hin, hc⟩ := h1.ints.at_ hk
  injection e with e
  injection e with e1 e2
  subst e1 e2
  rw [Nat.zero_add] at hc
  exact ⟨z, hin, hz, hc⟩

theorem in64_small {z : Int} (h1 : -9223372036854775808 ≤ z) (h2 : z ≤ 9223372036854775807) : In64 z := ⟨h1, h2⟩

end Go.Proofs.Ytmppiefkeeanpaa
