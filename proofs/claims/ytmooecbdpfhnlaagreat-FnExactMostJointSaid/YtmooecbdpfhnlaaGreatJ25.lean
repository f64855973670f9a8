/- Joined texts of this proof (EnvLaw, OutLaw, Outcomes), in build order. -/
import Derived.Test.YtmooecbdpfhnlaaGreatJ12
import Derived.Deep.RegionHeld3
import Derived.Test.YtmooecbdpfhnlaaGreatJ7
import Derived.Test.YtmooecbdpfhnlaaGreatJ13
/- A law's argument that is an environment: what it is, as the statement's own reading gives it; what szEnv answers for it. -/
namespace Go.Proofs.YtmooecbdpfhnlaaGreat
open Go.RowKit Go.ChangeShapes Go.WideShapes

def RowsIA (w : World) (a : Option Addr) (n : Nat) (rs : List Sl) : Prop :=
  rs.length = n ∧ (0 < n → ∃ b o, a = some ⟨b, o, none⟩ ∧ b < w.heap.size ∧ ∀ i, i < n → w.cell? ⟨b, o + i, none⟩ = some (slV (slAt rs i))) ∧ ∀ i, i < n → ArgInts w (slAt rs i).1 (slAt rs i).2.1
/-- An argument that is a slice of slices of numbers. -/
def ArgIS (w : World) (a : Option Addr) (len : Nat) : Prop := len ≤ maxLen ∧ (len ≤ 1048576 → ∃ rs, RowsIA w a len rs)
theorem RowsIA.below {w w' : World} {a : Option Addr} {n : Nat} {rs : List Sl} (h : RowsIA w a n rs) (hb : Below w.heap.size w w') : RowsIA w' a n rs := by
  obtain ⟨h1, h2, h3⟩ := h
  refine ⟨h1, fun hp => ?_, fun i hi => (h3 i hi).below hb⟩
  obtain ⟨b, o, rfl, hbl, hc⟩ := h2 hp
  exact ⟨b, o, rfl, Nat.lt_of_lt_of_le hbl hb.size, fun i hi => (hb.cell hbl).trans (hc i hi)⟩
theorem ArgIS.below {w w' : World} {a : Option Addr} {n : Nat} (h : ArgIS w a n) (hb : Below w.heap.size w w') : ArgIS w' a n :=
  ⟨h.1, fun hn => by obtain ⟨rs, hr⟩ := h.2 hn; exact ⟨rs, hr.below hb⟩⟩
structure ArgEnv (w : World) (r : ERow) : Prop where
  vars : ArgInts w r.vars.1 r.vars.2.1
  cells : ArgIS w r.cells.1 r.cells.2.1
theorem ArgEnv.below {w w' : World} {r : ERow} (h : ArgEnv w r) (hb : Below w.heap.size w w') : ArgEnv w' r := ⟨h.vars.below hb, h.cells.below hb⟩
def sumI (rs : List Sl) : Nat → Nat
  | 0 => 0
  | k + 1 => sumI rs k + (slAt rs k).2.1
theorem sumI_mono (rs : List Sl) {j k : Nat} (h : j ≤ k) : sumI rs j ≤ sumI rs k := by
  induction k with
  | zero => obtain rfl : j = 0 := by omega
            exact Nat.le_refl _
  | succ k ih =>
    rcases Nat.lt_or_ge j (k + 1) with hlt | hge
    · exact Nat.le_trans (ih (by omega)) (by simp only [sumI]; omega)
    · obtain rfl : j = k + 1 := by omega
      exact Nat.le_refl _
theorem sumI_each (rs : List Sl) {i n : Nat} (h : i < n) : (slAt rs i).2.1 ≤ sumI rs n := by
  have := sumI_mono rs (show i + 1 ≤ n by omega)
  simp only [sumI] at this
  omega
theorem RowsIA.reads {w : World} {a : Option Addr} {n : Nat} {rs : List Sl} (h : RowsIA w a n rs) (hn : n + sumI rs n ≤ 1048576) : ∃ css, IntsSS w a n rs css := by
  obtain ⟨h1, h2, h3⟩ := h
  have each : ∀ i, i < n → ∃ zs, Ints w (slAt rs i).1 (slAt rs i).2.1 zs := fun i hi => (h3 i hi).2 (by have := sumI_each rs hi; omega)
  obtain ⟨q, hq⟩ := Go.Deep.choose_lt each
  exact ⟨(List.range n).map q, h1, by simp, by omega, h2, fun i hi => by
    rw [show intsAt ((List.range n).map q) i = q i by simp [intsAt, List.getD_eq_getElem?_getD, hi]]
    exact hq i hi⟩

end Go.Proofs.YtmooecbdpfhnlaaGreat
/- Words for Outcomes (three cells: a slice of numbers, two numbers); the laws' own helpers on them (toOutcome, eqOutcome, szOutcome); what an argument that is an Outcome is. -/
namespace Go.Proofs.YtmooecbdpfhnlaaGreat
open Go.RowKit Go.ChangeShapes Go.WideShapes

/-- Its three cells. -/
structure OcR where
  vals : Sl
  en : Int
  co : Int
def ocV (r : OcR) : Value := .agg #[slV r.vals, .int .i64 r.en, .int .i64 r.co]
def ArgOc (w : World) (r : OcR) : Prop := ArgInts w r.vals.1 r.vals.2.1
theorem ArgOc.below {w w' : World} {r : OcR} (h : ArgOc w r) (hb : Below w.heap.size w w') : ArgOc w' r := ArgInts.below h hb
def MadeOc (w : World) (r : OcR) (zs : List Int) (e : Ending) (w' : World) : Prop := ∃ v : Sl, e = .returned (ocV ⟨v, r.en, r.co⟩) ∧ Own w' w.heap.size v.1 v.2.1 v.2.2 zs ∧ Below w.heap.size w w'
/-- Two blocks of Outcomes. -/
structure DBox (w wi : World) (c0 c1 : List Value) : Prop where
  one : Blk wi w.heap.size 43 c0
  two : Blk wi (w.heap.size + 1) 43 c1
  bel : Below w.heap.size w wi
theorem DBox.below {w wi wj : World} {c0 c1 : List Value} (h : DBox w wi c0 c1) (hb : Below wi.heap.size wi wj) : DBox w wj c0 c1 :=
  ⟨h.one.below hb h.one.lt, h.two.below hb h.two.lt, h.bel.trans (hb.mono h.bel.size)⟩
theorem dbox_new (w : World) (c0 c1 : List Value) : DBox w ((w.alloc (.cells c0.toArray 43)).alloc (.cells c1.toArray 43)) c0 c1 :=
  ⟨(Blk.new w _ _).alloc _, by simpa using Blk.new (w.alloc _) 43 c1, ((Below.refl _ _).alloc (Nat.le_refl _) _).alloc (by simp) _⟩
/-- eqOutcome of what reads alike. -/
theorem eqOutcome_same (v v' : Sl) (en co : Int) (zs : List Int) (w : World) (h : Ints w v.1 v.2.1 zs) (h' : Ints w v'.1 v'.2.1 zs) :
    Calls Tryz.prog 87 #[ocV ⟨v, en, co⟩, ocV ⟨v', en, co⟩] w fun e w' => e = .returned (.bool true) ∧ Below w.heap.size w w' := by
  obtain ⟨a1, n1, c1⟩ := v
  obtain ⟨b1, m1, d1⟩ := v'
  simp only [] at h h'
  have hne1 : (en != en) = false := by simp
  have hne2 : (co != co) = false := by simp
  show Calls Tryz.prog 87 #[.agg #[.slice a1 n1 c1, .int .i64 en, .int .i64 co], .agg #[.slice b1 m1 d1, .int .i64 en, .int .i64 co]] w _
  obtain ⟨wa, HW⟩ : ∃ wa, Hid (wa = ((w.alloc (.cells #[.slice a1 n1 c1, .int .i64 en, .int .i64 co] 43)).alloc (.cells #[.slice b1 m1 d1, .int .i64 en, .int .i64 co] 43))) := ⟨_, rfl⟩
  have BX : DBox w wa [.slice a1 n1 c1, .int .i64 en, .int .i64 co] [.slice b1 m1 d1, .int .i64 en, .int .i64 co] := by rw [HW.out]; exact dbox_new w _ _
  go_enter Tryz.func87, Tryz.ntmps87
  go_wp2_with fail
  rw [← HW.out]
  refine (eqInt64S_any _ _ _ _ _ _ _ _ _ (h.below BX.bel) (h'.below BX.bel)).mono ?_
  rintro e w1 ⟨rfl, j, rfl⟩
  have hbj : Below wa.heap.size wa (wa.drewN j) := below_dn (Below.refl _ _) j
  obtain ⟨w1, HW1⟩ : ∃ w1, Hid (wa.drewN j = w1) := ⟨_, rfl⟩
  rw [HW1.out] at hbj ⊢
  have B1 := BX.below hbj
  rw [decide_eq_true rfl]
  clear BX HW HW1 hbj h h'
  have f1 := B1.one.cell (j := 1) rfl
  have f2 := B1.one.cell (j := 2) rfl
  have g1 := B1.two.cell (j := 1) rfl
  have g2 := B1.two.cell (j := 2) rfl
  have HB := Lib.hid B1.bel
  clear B1
  go_wp2
  go_ret
  exact ⟨rfl, HB.out⟩
/-- What LikeOutcomes answers. -/
def likeB (zs ys : List Int) (e c e' c' : Int) : Bool := decide (zs = ys) && (decide (e = e') && decide (c = c'))
set_option maxHeartbeats 1600000 in
theorem specLike_any (v v' : Sl) (en co en' co' : Int) (zs ys : List Int) (w : World) (h : Ints w v.1 v.2.1 zs) (h' : Ints w v'.1 v'.2.1 ys) :
    Calls Tryz.prog 157 #[ocV ⟨v, en, co⟩, ocV ⟨v', en', co'⟩] w fun e w' => e = .returned (.bool (likeB zs ys en co en' co')) ∧ Below w.heap.size w w' := by
  obtain ⟨R, HR⟩ : ∃ R, Hid (likeB zs ys en co en' co' = R) := ⟨_, rfl⟩
  rw [HR.out]
  obtain ⟨a1, n, c1⟩ := v
  obtain ⟨b1, m, d1⟩ := v'
  simp only [] at h h'
  have HL := Lib.hid h.1
  have HM := Lib.hid h'.1
  have hbd := h.2.1
  have hbe := h'.2.1
  show Calls Tryz.prog 157 #[.agg #[.slice a1 n c1, .int .i64 en, .int .i64 co], .agg #[.slice b1 m d1, .int .i64 en', .int .i64 co']] w _
  obtain ⟨wa, HW⟩ : ∃ wa, Hid (wa = ((w.alloc (.cells #[.slice a1 n c1, .int .i64 en, .int .i64 co] 43)).alloc (.cells #[.slice b1 m d1, .int .i64 en', .int .i64 co'] 43))) := ⟨_, rfl⟩
  have BX : DBox w wa [.slice a1 n c1, .int .i64 en, .int .i64 co] [.slice b1 m d1, .int .i64 en', .int .i64 co'] := by rw [HW.out]; exact dbox_new w _ _
  by_cases hnm : n = m
  case neg =>
    have hne : ((n : Int) != (m : Int)) = true := by simp; omega
    have HX : Hid (false = R) := Lib.hid (by rw [← HR.out, likeB, decide_eq_false (fun e => hnm (by rw [← HL.out, ← HM.out, e]))]; rfl)
    have HB := Lib.hid BX.bel
    clear BX HR hnm h h'
    go_enter Tryz.func157, Tryz.ntmps157
    go_wp2
    go_ret
    rw [← HW.out]
    exact ⟨ret_bool HX.out, HB.out⟩
  subst hnm
  have hne0 : ((n : Int) != (n : Int)) = false := by simp
  by_cases he : en = en'
  case neg =>
    have k1 : (en != en') = true := by simpa using he
    have HX : Hid (false = R) := Lib.hid (by rw [← HR.out, likeB, decide_eq_false he]; simp)
    have HB := Lib.hid BX.bel
    clear BX HR he h h'
    go_enter Tryz.func157, Tryz.ntmps157
    go_wp2
    go_ret
    rw [← HW.out]
    exact ⟨ret_bool HX.out, HB.out⟩
  have k1 : (en != en') = false := by simpa using he
  by_cases hc : co = co'
  case neg =>
    have k2 : (co != co') = true := by simpa using hc
    have HX : Hid (false = R) := Lib.hid (by rw [← HR.out, likeB, decide_eq_false hc]; simp)
    have HB := Lib.hid BX.bel
    clear BX HR he hc h h'
    go_enter Tryz.func157, Tryz.ntmps157
    go_wp2
    go_ret
    rw [← HW.out]
    exact ⟨ret_bool HX.out, HB.out⟩
  have k2 : (co != co') = false := by simpa using hc
  have HX : Hid (decide (zs = ys) = R) := Lib.hid (by rw [← HR.out, likeB, decide_eq_true he, decide_eq_true hc]; simp)
  have HB := Lib.hid BX.bel
  have f0 : ∀ j, (wa.drewN j).cell? ⟨w.heap.size, 0, none⟩ = some (.slice a1 n c1) := fun _ => BX.one.cell (j := 0) rfl
  have f1 : ∀ j, (wa.drewN j).cell? ⟨w.heap.size + 1, 0, none⟩ = some (.slice b1 n d1) := fun _ => BX.two.cell (j := 0) rfl
  have h := h.below BX.bel
  have h' := h'.below BX.bel
  have HF0 := Lib.hid f0
  have HF1 := Lib.hid f1
  clear BX HR he hc f0 f1
  go_enter Tryz.func157, Tryz.ntmps157
  go_wp2_with fail
  rw [← HW.out]
  go_loopw [5] (fun i wr => ∃ k : Nat, k ≤ n ∧ i = .int .i64 k ∧ EqTo zs ys k ∧ ∃ j, wr = wa.drewN j) (fun i _ => n - (intOf i).toNat)
  case atStart => exact ⟨0, Nat.zero_le _, rfl, EqTo.zero _ _, 0, rfl⟩
  case round =>
    obtain ⟨k, hk, rfl, hg, j, rfl⟩ := hrel
    have f0 := HF0.out j
    have f1 := HF1.out j
    have p0 : wa.cell? ⟨w.heap.size, 0, none⟩ = some (.slice a1 n c1) := f0
    have p1 : wa.cell? ⟨w.heap.size + 1, 0, none⟩ = some (.slice b1 n d1) := f1
    by_cases hlt : k < n
    · obtain ⟨g1, o1, x, rfl, hb1, hxk, hin1, hc1⟩ := h.at_ hlt
      obtain ⟨g2, o2, y, rfl, hb2, hyk, hin2, hc2⟩ := h'.at_ hlt
      have hd1 : (wa.drewN j).cell? ⟨g1, o1 + k, none⟩ = some (.int .i64 x) := hc1
      have hd2 : (wa.drewN j).cell? ⟨g2, o2 + k, none⟩ = some (.int .i64 y) := hc2
      have f0' : ∀ n', ((wa.drewN j).drewN n').cell? ⟨w.heap.size, 0, none⟩ = some (.slice (some ⟨g1, o1, none⟩) n c1) := fun _ => f0
      have f1' : ∀ n', ((wa.drewN j).drewN n').cell? ⟨w.heap.size + 1, 0, none⟩ = some (.slice (some ⟨g2, o2, none⟩) n d1) := fun _ => f1
      have hd1' : ∀ n', ((wa.drewN j).drewN n').cell? ⟨g1, o1 + k, none⟩ = some (.int .i64 x) := fun _ => hc1
      have hd2' : ∀ n', ((wa.drewN j).drewN n').cell? ⟨g2, o2 + k, none⟩ = some (.int .i64 y) := fun _ => hc2
      by_cases e : x = y
      · subst e
        have hne : (x != x) = false := by simp
        go_wp2
        go_quiet (fail)
        go_wp2
        go_roundw
        case rel => exact ⟨k + 1, by omega, by go_num, hg.succ hxk hyk rfl, _, rfl⟩
        case measure => simp [intOf]; omega
      · have hne : (x != y) = true := by simpa using e
        go_wp2
        go_quiet (fail)
        go_wp2
        go_ret
        exact ⟨ret_bool (by rw [← HX.out]; exact (decide_eq_false (fun h => e (by rw [hxk.out, hyk.out, h]))).symm), below_dn (below_dn HB.out _) _⟩
    · obtain rfl : n = k := by omega
      go_wp2
      go_ret
      exact ⟨ret_bool (by rw [← HX.out]; exact (decide_eq_true (eqTo_all (HL.out.trans HM.out.symm) (by rw [HL.out]; exact hg))).symm), below_dn HB.out _⟩
end Go.Proofs.YtmooecbdpfhnlaaGreat
/- Slices of Outcomes: what they read as; the call's own; 'append' to them. -/
namespace Go.Proofs.YtmooecbdpfhnlaaGreat
open Go.RowKit

/-- An outcome: what is put out, how it ends. -/
abbrev Oc := List Int × Rz
def noO : Oc := ([], (0, 0))
def noR : OcR := ⟨(none, 0, 0), 0, 0⟩
def orowV (r : OcR) : List Value := [slV r.vals, .int .i64 r.en, .int .i64 r.co]
def flatO (rs : List OcR) : List Value := rs.flatMap orowV
def rAt (rs : List OcR) (i : Nat) : OcR := rs.getD i noR
def oAt (os : List Oc) (i : Nat) : Oc := os.getD i noO
theorem flatO_len (rs : List OcR) : (flatO rs).length = rs.length * 3 := by
  induction rs with
  | nil => rfl
  | cons t r ih => simp only [flatO, List.flatMap_cons, List.length_append] at ih ⊢; simp only [orowV, List.length_cons, List.length_nil] at ih ⊢; omega
theorem flatO_append (a b : List OcR) : flatO (a ++ b) = flatO a ++ flatO b := by simp [flatO]
theorem flatO_at : ∀ (rs : List OcR) (k j : Nat), k < rs.length → j < 3 → (flatO rs)[k * 3 + j]? = (orowV (rAt rs k))[j]?
  | [], k, _, h, _ => absurd h (by simp)
  | t :: r, 0, j, _, hj => by
    show (orowV t ++ flatO r)[0 * 3 + j]? = (orowV t)[j]?
    rw [List.getElem?_append_left (by simp [orowV]; omega), Nat.zero_mul, Nat.zero_add]
  | t :: r, k + 1, j, h, hj => by
    have ih := flatO_at r k j (by simpa using h) hj
    show (orowV t ++ flatO r)[(k + 1) * 3 + j]? = (orowV (rAt r k))[j]?
    rw [List.getElem?_append_right (by simp [orowV]; omega), ← ih]
    congr 1
    simp [orowV]; omega
theorem flatO_one (us : List OcR) : ∀ u ∈ flatO us, u.oneCell' = true := by
  intro u hu
  obtain ⟨r, _, hr⟩ := List.mem_flatMap.1 hu
  simp only [orowV, List.mem_cons, List.not_mem_nil, or_false] at hr
  rcases hr with rfl | rfl | rfl <;> rfl
theorem rAt_left {a b : List OcR} {k : Nat} (h : k < a.length) : rAt (a ++ b) k = rAt a k := by simp [rAt, List.getD_eq_getElem?_getD, List.getElem?_append_left h]
theorem rAt_right {a b : List OcR} {k : Nat} (h : a.length ≤ k) : rAt (a ++ b) k = rAt b (k - a.length) := by simp [rAt, List.getD_eq_getElem?_getD, List.getElem?_append_right h]
theorem oAt_left {a b : List Oc} {k : Nat} (h : k < a.length) : oAt (a ++ b) k = oAt a k := by simp [oAt, List.getD_eq_getElem?_getD, List.getElem?_append_left h]
theorem oAt_right {a b : List Oc} {k : Nat} (h : a.length ≤ k) : oAt (a ++ b) k = oAt b (k - a.length) := by simp [oAt, List.getD_eq_getElem?_getD, List.getElem?_append_right h]
theorem oAt_mem {os : List Oc} {k : Nat} (h : k < os.length) : oAt os k ∈ os := by
  simp [oAt, List.getD_eq_getElem?_getD, List.getElem?_eq_getElem h]

/-- The cells r read as the outcome o; its numbers lie in a row of their own, from block E on. -/
def OcOf (w : World) (E : Nat) (r : OcR) (o : Oc) : Prop := r.en = o.2.1 ∧ r.co = o.2.2 ∧ In64 r.en ∧ In64 r.co ∧ Own w E r.vals.1 r.vals.2.1 r.vals.2.2 o.1
/-- A slice of Outcomes of the call's own, from block B on; their numbers' rows lie from E on. -/
def OwnO (w : World) (B E : Nat) (a : Option Addr) (n c : Nat) (rs : List OcR) (os : List Oc) : Prop :=
  w.ownsRow B 43 3 (.slice a n c) n (flatO rs) ∧ n ≤ 1048576 ∧ os.length = n ∧ ∀ i, i < n → OcOf w E (rAt rs i) (oAt os i)
/-- No two of the rows lie in one block. -/
def ApartO (rs : List OcR) : Prop := ∀ i j g, i < rs.length → j < rs.length → (slV (rAt rs i).vals).ownBlock = some g → (slV (rAt rs j).vals).ownBlock = some g → i = j
section
variable {w w' : World} {B E : Nat} {r : OcR} {o : Oc} {a : Option Addr} {n c : Nat} {rs : List OcR} {os : List Oc}
theorem OcOf.below (h : OcOf w E r o) (hb : Below w.heap.size w w') : OcOf w' E r o := ⟨h.1, h.2.1, h.2.2.1, h.2.2.2.1, h.2.2.2.2.below hb⟩
theorem OcOf.base {E' : Nat} (h : OcOf w E r o) (hE : E' ≤ E) : OcOf w E' r o := ⟨h.1, h.2.1, h.2.2.1, h.2.2.2.1, h.2.2.2.2.base hE⟩
theorem OwnO.len (h : OwnO w B E a n c rs os) : rs.length = n := by have := h.1.1; rw [flatO_len] at this; omega
theorem OwnO.below (h : OwnO w B E a n c rs os) (hb : Below w.heap.size w w') : OwnO w' B E a n c rs os :=
  ⟨h.1.kept (row := none) ⟨hb.os, hb.tape, hb.output, hb.size, fun k hk _ => hb.block k hk⟩ (by cases a <;> simp [Value.ownBlock]), h.2.1, h.2.2.1, fun i hi => (h.2.2.2 i hi).below hb⟩
theorem OwnO.alloc (h : OwnO w B E a n c rs os) (ob : Obj) : OwnO (w.alloc ob) B E a n c rs os := h.below ((Below.refl _ _).alloc (Nat.le_refl _) ob)
theorem OwnO.base {B' : Nat} (h : OwnO w B E a n c rs os) (hB : B' ≤ B) : OwnO w B' E a n c rs os := by
  refine ⟨⟨h.1.1, ?_⟩, h.2.1, h.2.2.1, h.2.2.2⟩
  rcases h.1.2 with hn | ⟨g, cap, cur, e, hb, r⟩
  · exact .inl hn
  · exact .inr ⟨g, cap, cur, e, by omega, r⟩
theorem OwnO.ebase {E' : Nat} (h : OwnO w B E a n c rs os) (hE : E' ≤ E) : OwnO w B E' a n c rs os := ⟨h.1, h.2.1, h.2.2.1, fun i hi => (h.2.2.2 i hi).base hE⟩
theorem OwnO.block (h : OwnO w B E a n c rs os) : ∀ g, (Value.slice a n c).ownBlock = some g → B ≤ g ∧ g < w.heap.size := h.1.lt
theorem OwnO.cap (h : OwnO w B E a n c rs os) : n ≤ c := by
  rcases h.1.2 with ⟨e1, h0⟩ | ⟨g, cap, cur, e1, hb, hg, hnc, _⟩
  · injection e1 with _ e2 e3; omega
  · injection e1 with _ e2 e3; omega
/-- One of them. -/
theorem OwnO.at_ (h : OwnO w B E a n c rs os) {k : Nat} (hk : k < n) : ∃ g v m d en co, a = some ⟨g, 0, none⟩ ∧ g < w.heap.size ∧ Hid (rAt rs k = ⟨(v, m, d), en, co⟩) ∧ w.cell? ⟨g, k * 3, none⟩ = some (.slice v m d) ∧ w.cell? ⟨g, k * 3 + 1, none⟩ = some (.int .i64 en) ∧ w.cell? ⟨g, k * 3 + 2, none⟩ = some (.int .i64 co) ∧ Hid (OcOf w E ⟨(v, m, d), en, co⟩ (oAt os k)) := by
  have hlen := h.len
  obtain ⟨ho, _, _, hi⟩ := h
  rcases ho.2 with ⟨_, h0⟩ | ⟨g, cap, cur, e, _, hh, _⟩
  · omega
  · have ea : a = some ⟨g, 0, none⟩ := by injection e
    subst ea
    have e0 := flatO_at rs k 0 (by omega) (by omega)
    have e1 := flatO_at rs k 1 (by omega) (by omega)
    have e2 := flatO_at rs k 2 (by omega) (by omega)
    have hO := hi k hk
    obtain ⟨R, hR⟩ : ∃ R, rAt rs k = R := ⟨_, rfl⟩
    rw [hR] at e0 e1 e2 hO
    obtain ⟨⟨v, m, d⟩, en, co⟩ := R
    rw [Nat.add_zero] at e0
    refine ⟨g, v, m, d, en, co, rfl, (ho.lt g rfl).2, hR, ?_, ?_, ?_, hO⟩
    · rw [ho.cellAt (k * 3) (by omega)]; exact e0
    · rw [ho.cellAt (k * 3 + 1) (by omega)]; exact e1
    · rw [ho.cellAt (k * 3 + 2) (by omega)]; exact e2
/-- The row of Outcomes itself turns: their numbers lie elsewhere. -/
theorem kinds_apartO {E' g : Nat} {zs : List Int} {b : Option Addr} {m d : Nat} {xs : List Value} (h : Own w E' b m d zs) (hr : w.ownsRow B 43 3 (.slice a n c) n xs) (hg : (Value.slice a n c).ownBlock = some g) : (Value.slice b m d).ownBlock ≠ some g := by
  intro e
  obtain ⟨c1, f1, h1⟩ := Lib.ownsRow_kind h.1 g e
  obtain ⟨c2, f2, h2⟩ := Lib.ownsRow_kind hr g hg
  rw [h1] at h2
  injection h2 with h2
  injection h2 with _ h2 _
  exact absurd h2 (by decide)
theorem own_rowGrewO {E' : Nat} {zs : List Int} {b : Option Addr} {m d : Nat} {xs : List Value} (h : Own w E' b m d zs) (hr : w.ownsRow B 43 3 (.slice a n c) n xs) (hg : w.grownBy w' (Value.slice a n c).ownBlock) : Own w' E' b m d zs :=
  h.keep hg (fun _ e e' => kinds_apartO h hr e' e)
theorem OcOf.rowGrew {xs : List Value} (h : OcOf w E r o) (hr : w.ownsRow B 43 3 (.slice a n c) n xs) (hg : w.grownBy w' (Value.slice a n c).ownBlock) : OcOf w' E r o :=
  ⟨h.1, h.2.1, h.2.2.1, h.2.2.2.1, own_rowGrewO h.2.2.2.2 hr hg⟩
theorem OwnO.snoc {a1 : Option Addr} {c1 : Nat} (h : OwnO w B E a n c rs os) (hr : OcOf w E r o) (hn : n < 1048576) (h1 : w'.ownsRow B 43 3 (.slice a1 (n + 1) c1) (n + 1) (flatO rs ++ orowV r)) (hg : w.grownBy w' (Value.slice a n c).ownBlock) : OwnO w' B E a1 (n + 1) c1 (rs ++ [r]) (os ++ [o]) := by
  have hlr := h.len
  have hls := h.2.2.1
  refine ⟨by rw [flatO_append]; simpa [flatO] using h1, by omega, by simp [hls], fun i hi => ?_⟩
  rcases Nat.lt_or_ge i n with hlt | hge
  · rw [rAt_left (by omega), oAt_left (by omega)]
    exact (h.2.2.2 i hlt).rowGrew h.1 hg
  · obtain rfl : i = n := by omega
    rw [rAt_right (by omega), oAt_right (by omega), hlr, hls, Nat.sub_self]
    exact hr.rowGrew h.1 hg
end
theorem info_oc : (Tryz.prog.info? 43).map (fun i => (i.zero, i.size, i.bytes)) = some (some (.agg #[.slice none 0 0, .int .i64 0, .int .i64 0]), 3, 40) := by kernel_rfl
theorem ownO_nil (w : World) (B E : Nat) : OwnO w B E none 0 0 [] [] := ⟨World.ownsRow_nil _ _ _ _, by omega, rfl, fun i hi => absurd hi (by omega)⟩
theorem ownO_empty (w : World) (B E : Nat) (hB : B ≤ w.heap.size) : OwnO (w.alloc (.cells #[] 43)) B E (some ⟨w.heap.size, 0, none⟩) 0 0 [] [] :=
  ⟨World.ownsRow_lit w #[] 0 hB (by unfold maxLen; omega) rfl, by omega, rfl, fun i hi => absurd hi (by omega)⟩
theorem apartO_nil : ApartO [] := fun i _ _ hi => absurd hi (by simp)
theorem ApartO.snoc {rs : List OcR} {r : OcR} (h : ApartO rs) (hr : ∀ i g, i < rs.length → (slV (rAt rs i).vals).ownBlock = some g → (slV r.vals).ownBlock ≠ some g) : ApartO (rs ++ [r]) := by
  intro i j g hi hj h1 h2
  rw [List.length_append, List.length_singleton] at hi hj
  rcases Nat.lt_or_ge i rs.length with hi' | hi' <;> rcases Nat.lt_or_ge j rs.length with hj' | hj'
  · rw [rAt_left hi'] at h1
    rw [rAt_left hj'] at h2
    exact h i j g hi' hj' h1 h2
  · rw [rAt_left hi'] at h1
    rw [rAt_right hj', show j - rs.length = 0 by omega] at h2
    exact absurd h2 (hr i g hi' h1)
  · rw [rAt_left hj'] at h2
    rw [rAt_right hi', show i - rs.length = 0 by omega] at h1
    exact absurd h1 (hr j g hj' h2)
  · omega
/-- 'append(out, o)'. -/
theorem wpList_pushO {ops : Array Oper} {rest : List Oper} {o : Oper} {ac : Act} {Q : Exit → Act → World → Prop} (w : World) (hgd : o.guard = none) (s x : Operand)
    (ho : o.op = .call { callee := .builtin .append, args := #[s, x], argTypes := #[37, 37] })
    (B E : Nat) (a : Option Addr) (n c : Nat) (rs : List OcR) (os : List Oc) (hs : ac.eval s = .slice a n c) (hown : OwnO w B E a n c rs os)
    (g : Nat) (v : Option Addr) (m d : Nat) (en co : Int) (oc : Oc) (hx : ac.eval x = .slice (some ⟨g, 0, none⟩) 1 1) (hc0 : w.cell? ⟨g, 0, none⟩ = some (.slice v m d)) (hc1 : w.cell? ⟨g, 1, none⟩ = some (.int .i64 en)) (hc2 : w.cell? ⟨g, 2, none⟩ = some (.int .i64 co)) (hoc : OcOf w E ⟨(v, m, d), en, co⟩ oc) (hn : n < 1048576) (hB : B ≤ w.heap.size)
    (h : ∀ a1 c1 w', OwnO w' B E a1 (n + 1) c1 (rs ++ [⟨(v, m, d), en, co⟩]) (os ++ [oc]) → GrowsTo w (.slice a n c) w' (.slice a1 (n + 1) c1) → wpList Tryz.prog ops Q rest (ac.put o.dst (.slice a1 (n + 1) c1)) w') : wpList Tryz.prog ops Q (o :: rest) ac w := by
  refine wpList_pushG w hgd s x 37 43 (.agg #[.slice none 0 0, .int .i64 0, .int .i64 0]) 3 40 ho Tryz.underlying37 info_oc rfl (by omega) B a n c (flatO rs) hs hown.1 ⟨g, 0, none⟩ 1 1 (orowV ⟨(v, m, d), en, co⟩) hx rfl ?_ ?_ (by unfold maxLen; omega) (by omega) hB ?_
  · intro j u hj
    rw [addr_add]
    match j, hj with
    | 0, hj => simp [orowV, slV] at hj; subst hj; exact hc0
    | 1, hj => simp [orowV] at hj; subst hj; exact hc1
    | 2, hj => simp [orowV] at hj; subst hj; exact hc2
  · intro u hu
    exact flatO_one [⟨(v, m, d), en, co⟩] u (by simpa [flatO] using hu)
  · intro a1 c1 w' r1 r2
    exact h a1 c1 w' (hown.snoc hoc hn r1 r2.1) r2
theorem step_pushO {ops : Array Oper} {o : Oper} {ac : Act} {K : Act → World → Prop} {Q : Exit → Act → World → Prop} {X : Prop} (w : World) (hgd : o.guard = none) (s x : Operand)
    (ho : o.op = .call { callee := .builtin .append, args := #[s, x], argTypes := #[37, 37] })
    (B E : Nat) (a : Option Addr) (n c : Nat) (rs : List OcR) (os : List Oc) (hs : ac.eval s = .slice a n c) (hown : OwnO w B E a n c rs os)
    (g : Nat) (v : Option Addr) (m d : Nat) (en co : Int) (oc : Oc) (hx : ac.eval x = .slice (some ⟨g, 0, none⟩) 1 1) (hc0 : w.cell? ⟨g, 0, none⟩ = some (.slice v m d)) (hc1 : w.cell? ⟨g, 1, none⟩ = some (.int .i64 en)) (hc2 : w.cell? ⟨g, 2, none⟩ = some (.int .i64 co)) (hoc : OcOf w E ⟨(v, m, d), en, co⟩ oc) (hn : n < 1048576) (hB : B ≤ w.heap.size)
    (h : ∀ a1 c1 w', OwnO w' B E a1 (n + 1) c1 (rs ++ [⟨(v, m, d), en, co⟩]) (os ++ [oc]) → GrowsTo w (.slice a n c) w' (.slice a1 (n + 1) c1) → K (ac.put o.dst (.slice a1 (n + 1) c1)) w') :
    if Region.wanted o (yielded ops ac.tmps) = true then Oper.wp Tryz.prog o ac w K Q else X := by
  refine step_pushG w hgd s x 37 43 (.agg #[.slice none 0 0, .int .i64 0, .int .i64 0]) 3 40 ho Tryz.underlying37 info_oc rfl (by omega) B a n c (flatO rs) hs hown.1 ⟨g, 0, none⟩ 1 1 (orowV ⟨(v, m, d), en, co⟩) hx rfl ?_ ?_ (by omega) (by unfold maxLen; omega) (by omega) hB ?_
  · intro j u hj
    rw [addr_add]
    match j, hj with
    | 0, hj => simp [orowV, slV] at hj; subst hj; exact hc0
    | 1, hj => simp [orowV] at hj; subst hj; exact hc1
    | 2, hj => simp [orowV] at hj; subst hj; exact hc2
  · intro u hu
    exact flatO_one [⟨(v, m, d), en, co⟩] u (by simpa [flatO] using hu)
  · intro g1 c1 w' r1 r2
    exact h _ c1 w' (hown.snoc hoc hn r1 r2.1) r2
end Go.Proofs.YtmooecbdpfhnlaaGreat
