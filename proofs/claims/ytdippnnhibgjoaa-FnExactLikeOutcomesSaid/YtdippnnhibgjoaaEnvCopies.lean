/- The laws' own helpers on environments: toInt64SS, toEnv, eqInt64SS, eqEnv; what szInt64SS, szEnv answer; what an argument that is an environment is. -/
import Derived.Test.YtdippnnhibgjoaaSpecVal1
import Derived.Test.YtdippnnhibgjoaaProgLaw
namespace Go.Proofs.Ytdippnnhibgjoaa
open Go.RowKit Go.ChangeShapes Go.WideShapes

/-- A slice of slices of numbers of the call's own, from block B on. -/
def OwnIS (w : World) (B : Nat) (a : Option Addr) (n c : Nat) (rs : List Sl) (css : List (List Int)) : Prop :=
  w.ownsRow B 28 1 (.slice a n c) n (rs.map slV) ∧ n ≤ 1048576 ∧ css.length = n ∧ ∀ i, i < n → Own w B (slAt rs i).1 (slAt rs i).2.1 (slAt rs i).2.2 (intsAt css i)
section
variable {w w' : World} {B : Nat} {a : Option Addr} {n c : Nat} {rs : List Sl} {css : List (List Int)}
theorem OwnIS.len (h : OwnIS w B a n c rs css) : rs.length = n := by have := h.1.1; simpa using this
theorem OwnIS.reads (h : OwnIS w B a n c rs css) : IntsSS w a n rs css := by
  have hlen := h.len
  obtain ⟨ho, hn, ht, hi⟩ := h
  refine ⟨hlen, ht, hn, fun hp => ?_, fun i h' => (hi i h').ints⟩
  rcases ho.2 with ⟨_, h0⟩ | ⟨g, cap, cur, e, _, hh, _⟩
  · exact absurd hp (by omega)
  · have ea : a = some ⟨g, 0, none⟩ := by injection e
    subst ea
    refine ⟨g, 0, rfl, (ho.lt g rfl).2, fun i h' => ?_⟩
    rw [Nat.zero_add, ho.cellAt i (by omega)]
    simp [slAt, List.getD_eq_getElem?_getD, List.getElem?_eq_getElem (show i < rs.length by omega)]
theorem OwnIS.below (h : OwnIS w B a n c rs css) (hb : Below w.heap.size w w') : OwnIS w' B a n c rs css :=
  ⟨h.1.kept (row := none) ⟨hb.os, hb.tape, hb.output, hb.size, fun k hk _ => hb.block k hk⟩ (by cases a <;> simp [Value.ownBlock]), h.2.1, h.2.2.1, fun i hi => (h.2.2.2 i hi).below hb⟩
theorem OwnIS.set (h : OwnIS w B a n c rs css) {b j : Nat} (hb : b < B) (v : Value) : OwnIS (w.setCell ⟨b, j, none⟩ v) B a n c rs css := by
  refine ⟨h.1.kept (grown_set _ _ _ _) ?_, h.2.1, h.2.2.1, fun i hi => (h.2.2.2 i hi).set hb v⟩
  cases hv : (Value.slice a n c).ownBlock with
  | none => exact .inl rfl
  | some g =>
    refine .inr fun e => ?_
    have := (h.1.lt g hv).1
    injection e with e
    omega
end
theorem info_ints : (Try.prog.info? 28).map (fun i => (i.zero, i.size, i.bytes)) = some (some (.slice none 0 0), 1, 24) := by kernel_rfl
/-- The first rows qs, empty ones behind. -/
def CopyR (qs : List Sl) (n : Nat) : List Sl := qs ++ List.replicate (n - qs.length) (none, 0, 0)
theorem copyR_succ {qs : List Sl} {n : Nat} {r : Sl} (h : qs.length < n) : (CopyR qs n).set qs.length r = CopyR (qs ++ [r]) n := by
  unfold CopyR
  rw [List.set_append_right _ _ (Nat.le_refl _), Nat.sub_self]
  obtain ⟨m, hm⟩ : ∃ m, n - qs.length = m + 1 := ⟨n - qs.length - 1, by omega⟩
  rw [hm, List.replicate_succ, List.set_cons_zero, List.length_append, List.length_singleton, show n - (qs.length + 1) = m by omega, List.append_assoc]
  rfl
theorem copyR_all {qs : List Sl} {n : Nat} (h : qs.length = n) : CopyR qs n = qs := by simp [CopyR, h]
theorem own_putR {w : World} {B g n cap : Nat} {rs : List Sl} (h : w.ownsRow B 28 1 (.slice (some ⟨g, 0, none⟩) n cap) n (rs.map slV)) (k : Nat) (r : Sl) :
    (w.setCell ⟨g, k, none⟩ (slV r)).ownsRow B 28 1 (.slice (some ⟨g, 0, none⟩) n cap) n ((rs.set k r).map slV) := by
  rw [List.map_set]; exact (h.stored k _).1
theorem own_cellR {w : World} {B g n cap : Nat} {rs : List Sl} (h : w.ownsRow B 28 1 (.slice (some ⟨g, 0, none⟩) n cap) n (rs.map slV)) {k : Nat} (hk : k < n) : w.cell? ⟨g, k, none⟩ = some (slV (slAt rs k)) := by
  have hl : rs.length = n := by have := h.1; simpa using this
  rw [h.cellAt k (by omega)]
  simp [slAt, List.getD_eq_getElem?_getD, List.getElem?_eq_getElem (show k < rs.length by omega)]
def RowsI (w : World) (B : Nat) (qs : List Sl) (css : List (List Int)) : Prop := ∀ i, i < qs.length → Own w B (slAt qs i).1 (slAt qs i).2.1 (slAt qs i).2.2 (intsAt css i)
theorem RowsI.succ {w w' : World} {B : Nat} {qs : List Sl} {css : List (List Int)} {r : Sl} (h : RowsI w B qs css) (hb : Below w.heap.size w w') (hr : Own w' w.heap.size r.1 r.2.1 r.2.2 (intsAt css qs.length)) (hB : B ≤ w.heap.size) : RowsI w' B (qs ++ [r]) css := by
  intro i hi
  rcases Nat.lt_or_ge i qs.length with hlt | hge
  · rw [show slAt (qs ++ [r]) i = slAt qs i from getD_left _ _ _ _ hlt]
    exact (h i hlt).below hb
  · have e : i = qs.length := by simp at hi; omega
    subst e
    rw [show slAt (qs ++ [r]) qs.length = r from getD_last _ _ _ _ rfl]
    exact hr.base hB
theorem RowsI.set {w : World} {B : Nat} {qs : List Sl} {css : List (List Int)} (h : RowsI w B qs css) {b j : Nat} (hb : b < B) (v : Value) : RowsI (w.setCell ⟨b, j, none⟩ v) B qs css := fun i hi => (h i hi).set hb v
def MadeIS (w : World) (css : List (List Int)) (e : Ending) (w' : World) : Prop := ∃ a n c rs, e = .returned (.slice a n c) ∧ OwnIS w' w.heap.size a n c rs css ∧ Below w.heap.size w w'

def EqIS (xss yss : List (List Int)) (k : Nat) : Prop := ∀ i, i < k → intsAt xss i = intsAt yss i
theorem EqIS.succ {xss yss : List (List Int)} {k : Nat} (h : EqIS xss yss k) (e : intsAt xss k = intsAt yss k) : EqIS xss yss (k + 1) := by
  intro i hi
  rcases Nat.lt_or_ge i k with hlt | hge
  · exact h i hlt
  · have : i = k := by omega
    subst this; exact e
theorem eqIS_all {xss yss : List (List Int)} (hl : xss.length = yss.length) (h : EqIS xss yss xss.length) : xss = yss := by
  apply List.ext_getElem hl
  intro i h1 h2
  have := h i h1
  simpa [intsAt, List.getD_eq_getElem?_getD, h1, h2] using this
set_option maxHeartbeats 800000 in
theorem eqInt64SS_any (a b : Option Addr) (n m c d : Nat) (rs qs : List Sl) (xss yss : List (List Int)) (w : World) (hx : IntsSS w a n rs xss) (hy : IntsSS w b m qs yss) :
    Calls Try.prog 51 #[.slice a n c, .slice b m d] w fun e w' => e = .returned (.bool (decide (xss = yss))) ∧ Below w.heap.size w w' := by
  have HL := Lib.hid hx.2.1
  have HM := Lib.hid hy.2.1
  have hbd := hx.2.2.1
  have hbe := hy.2.2.1
  by_cases hnm : n = m
  · subst hnm
    have hne0 : ((n : Int) != (n : Int)) = false := by simp
    go_enter Try.func51, Try.ntmps51
    go_wp2
    go_loopw [5] (fun i wr => ∃ k : Nat, k ≤ n ∧ i = .int .i64 k ∧ EqIS xss yss k ∧ Below w.heap.size w wr) (fun i _ => n - (intOf i).toNat)
    case atStart => exact ⟨0, Nat.zero_le _, rfl, fun i hi => absurd hi (by omega), Below.refl _ _⟩
    case round =>
      obtain ⟨k, hk, rfl, hg, hbel⟩ := hrel
      by_cases hlt : k < n
      · obtain ⟨b1, o1, a1, n1, c1, rfl, hb1, hxk, hc1, hT1⟩ := (hx.below hbel).at_ hlt
        obtain ⟨b2, o2, a2, n2, c2, rfl, hb2, hyk, hc2, hT2⟩ := (hy.below hbel).at_ hlt
        have f1 := lat_cell hb1 hc1
        have f2 := lat_cell hb2 hc2
        clear hc1 hc2
        obtain ⟨q, HQ⟩ : ∃ q, Hid (decide (intsAt xss k = intsAt yss k) = q) := ⟨_, rfl⟩
        have hcon : ∀ p : Lat wr, Calls Try.prog 25 #[.slice a1 n1 c1, .slice a2 n2 c2] p.wd fun e w' => e = .returned (.bool q) ∧ Below p.wd.heap.size p.wd w' := fun p => by
          rw [← HQ.out]
          exact (eqInt64S_any _ _ _ _ _ _ _ _ _ (hT1.below p.ok) (hT2.below p.ok)).mono fun e w' ⟨he, j, hj⟩ => ⟨he, by rw [hj]; exact below_dn (Below.refl _ _) j⟩
        have HC := Lib.hid hcon
        clear hcon hT1 hT2
        cases q with
        | true =>
          have HE := Lib.hid (of_decide_eq_true HQ.out)
          go_wp2
          refine wp_region_lat (by kernel_rfl) (by kernel_rfl) ?_
          repeat (quiet_step ((go_at_call 25; exact lat_calls (HC.out _))))
          refine wpQuiet_nil ?_
          intro _ hw'
          obtain ⟨⟨wq, hwq⟩, hw''⟩ := hw'
          subst hw''
          have ht := hbel.trans (hwq.mono hbel.size)
          clear f1 f2 HC
          go_wp2
          go_roundw
          case rel => exact ⟨k + 1, by omega, by go_num, hg.succ HE.out, ht⟩
          case measure => simp [intOf]; omega
        | false =>
          have HE := Lib.hid (of_decide_eq_false HQ.out)
          go_wp2
          refine wp_region_lat (by kernel_rfl) (by kernel_rfl) ?_
          repeat (quiet_step ((go_at_call 25; exact lat_calls (HC.out _))))
          refine wpQuiet_nil ?_
          intro _ hw'
          obtain ⟨⟨wq, hwq⟩, hw''⟩ := hw'
          subst hw''
          have ht := hbel.trans (hwq.mono hbel.size)
          clear f1 f2 HC
          go_wp2
          go_ret
          exact ⟨ret_bool (decide_eq_false (fun h => HE.out (by rw [h]))).symm, ht⟩
      · obtain rfl : n = k := by omega
        go_wp2
        go_ret
        exact ⟨ret_bool (decide_eq_true (eqIS_all (HL.out.trans HM.out.symm) (by rw [HL.out]; exact hg))).symm, hbel⟩
  · have hne : ((n : Int) != (m : Int)) = true := by simp; omega
    go_enter Try.func51, Try.ntmps51
    go_wp2
    go_ret
    exact ⟨ret_bool (decide_eq_false (fun h => hnm (by rw [← HL.out, ← HM.out, h]))).symm, Below.refl _ _⟩
structure EBox (w wi : World) (c0 c1 : List Value) : Prop where
  one : Blk wi w.heap.size 55 c0
  two : Blk wi (w.heap.size + 1) 55 c1
  bel : Below w.heap.size w wi
theorem EBox.below {w wi wj : World} {c0 c1 : List Value} (h : EBox w wi c0 c1) (hb : Below wi.heap.size wi wj) : EBox w wj c0 c1 :=
  ⟨h.one.below hb h.one.lt, h.two.below hb h.two.lt, h.bel.trans (hb.mono h.bel.size)⟩
theorem ebox_new (w : World) (c0 c1 : List Value) : EBox w ((w.alloc (.cells c0.toArray 55)).alloc (.cells c1.toArray 55)) c0 c1 :=
  ⟨(Blk.new w _ _).alloc _, by simpa using Blk.new (w.alloc _) 55 c1, ((Below.refl _ _).alloc (Nat.le_refl _) _).alloc (by simp) _⟩
/-- eqEnv of what reads alike. -/
theorem eqEnv_same (r q : ERow) (v : Envr) (w : World) (h : EnvAt w r v) (h' : EnvAt w q v) :
    Calls Try.prog 23 #[envV r, envV q] w fun e w' => e = .returned (.bool true) ∧ Below w.heap.size w w' := by
  obtain ⟨⟨a1, n1, c1⟩, ⟨a2, n2, c2⟩, rows⟩ := r
  obtain ⟨⟨b1, m1, d1⟩, ⟨b2, m2, d2⟩, rows'⟩ := q
  obtain ⟨h1, h2⟩ := h
  obtain ⟨h1', h2'⟩ := h'
  simp only [] at h1 h2 h1' h2'
  show Calls Try.prog 23 #[.agg #[.slice a1 n1 c1, .slice a2 n2 c2], .agg #[.slice b1 m1 d1, .slice b2 m2 d2]] w _
  obtain ⟨wa, HW⟩ : ∃ wa, Hid (wa = ((w.alloc (.cells #[.slice a1 n1 c1, .slice a2 n2 c2] 55)).alloc (.cells #[.slice b1 m1 d1, .slice b2 m2 d2] 55))) := ⟨_, rfl⟩
  have BX : EBox w wa [.slice a1 n1 c1, .slice a2 n2 c2] [.slice b1 m1 d1, .slice b2 m2 d2] := by rw [HW.out]; exact ebox_new w _ _
  go_enter Try.func23, Try.ntmps23
  go_wp2_with fail
  rw [← HW.out]
  refine (eqInt64S_any _ _ _ _ _ _ _ _ _ (h1.below BX.bel) (h1'.below BX.bel)).mono ?_
  rintro e w1 ⟨rfl, j, rfl⟩
  have hbj : Below wa.heap.size wa (wa.drewN j) := below_dn (Below.refl _ _) j
  obtain ⟨w1, HW1⟩ : ∃ w1, Hid (wa.drewN j = w1) := ⟨_, rfl⟩
  rw [HW1.out] at hbj ⊢
  have B1 := BX.below hbj
  rw [decide_eq_true rfl]
  clear BX HW HW1 hbj h1 h1'
  have f0 := B1.one.cell (j := 1) rfl
  have f1 := B1.two.cell (j := 1) rfl
  go_wp2_with fail
  refine (eqInt64SS_any _ _ _ _ _ _ _ _ _ _ _ (h2.below B1.bel) (h2'.below B1.bel)).mono ?_
  rintro e w2 ⟨rfl, hb2⟩
  have B2 := B1.below hb2
  rw [decide_eq_true rfl]
  clear B1 hb2 f0 f1
  go_wp2
  go_ret
  exact ⟨rfl, B2.bel⟩
end Go.Proofs.Ytdippnnhibgjoaa
