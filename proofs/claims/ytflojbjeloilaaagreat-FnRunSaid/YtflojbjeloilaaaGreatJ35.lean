/- Joined texts of this proof (EnvLaw, OutLaw), in build order. -/
import Derived.Test.YtflojbjeloilaaaGreatJ15
import Derived.Deep.RegionHeld3
import Derived.Test.YtflojbjeloilaaaGreatJ9
/- A law's argument that is an environment: what it is, as the statement's own reading gives it; what szEnv answers for it. -/
namespace Go.Proofs.YtflojbjeloilaaaGreat
open Go.RowKit Go.ChangeShapes Go.WideShapes

def RowsIA (w : World) (a : Option Addr) (n : Nat) (rs : List Sl) : Prop :=
  rs.length = n ∧ (0 < n → ∃ b o, a = some ⟨b, o, none⟩ ∧ b < w.heap.size ∧ ∀ i, i < n → w.cell? ⟨b, o + i, none⟩ = some (slV (slAt rs i))) ∧ ∀ i, i < n → ArgInts w (slAt rs i).1 (slAt rs i).2.1
/-- An argument that is a slice of slices of numbers. -/
def ArgIS (w : World) (a : Option Addr) (len : Nat) : Prop := len ≤ maxLen ∧ (len ≤ 1048576 → ∃ rs, RowsIA w a len rs)
theorem RowsIA.below {w w' : World} {a : Option Addr} {n : Nat} {rs : List Sl} (h : RowsIA w a n rs) (hb : Below w.heap.size w w') : RowsIA w' a n rs := by
  obtain ⟨h1, h2, h3⟩ := h
  refine ⟨h1, fun hp => ?_, fun i hi => (h3 i hi).below hb⟩
  obtain ⟨b, o, rfl, hbl, hc⟩ := h2 hp
  exact ⟨b, o, rfl, Nat.lt_of_lt_of_le hbl hb.size, fun i hi => (hb.cell hbl).trans (hc i hi)⟩
theorem ArgIS.below {w w' : World} {a : Option Addr} {n : Nat} (h : ArgIS w a n) (hb : Below w.heap.size w w') : ArgIS w' a n :=
  ⟨h.1, fun hn => by obtain ⟨rs, hr⟩ := h.2 hn; exact ⟨rs, hr.below hb⟩⟩
structure ArgEnv (w : World) (r : ERow) : Prop where
  vars : ArgInts w r.vars.1 r.vars.2.1
  cells : ArgIS w r.cells.1 r.cells.2.1
theorem ArgEnv.below {w w' : World} {r : ERow} (h : ArgEnv w r) (hb : Below w.heap.size w w') : ArgEnv w' r := ⟨h.vars.below hb, h.cells.below hb⟩
def sumI (rs : List Sl) : Nat → Nat
  | 0 => 0
  | k + 1 => sumI rs k + (slAt rs k).2.1
theorem sumI_mono (rs : List Sl) {j k : Nat} (h : j ≤ k) : sumI rs j ≤ sumI rs k := by
  induction k with
  | zero => obtain rfl : j = 0 := by omega
            exact Nat.le_refl _
  | succ k ih =>
    rcases Nat.lt_or_ge j (k + 1) with hlt | hge
    · exact Nat.le_trans (ih (by omega)) (by simp only [sumI]; omega)
    · obtain rfl : j = k + 1 := by omega
      exact Nat.le_refl _
theorem sumI_each (rs : List Sl) {i n : Nat} (h : i < n) : (slAt rs i).2.1 ≤ sumI rs n := by
  have := sumI_mono rs (show i + 1 ≤ n by omega)
  simp only [sumI] at this
  omega
theorem RowsIA.reads {w : World} {a : Option Addr} {n : Nat} {rs : List Sl} (h : RowsIA w a n rs) (hn : n + sumI rs n ≤ 1048576) : ∃ css, IntsSS w a n rs css := by
  obtain ⟨h1, h2, h3⟩ := h
  have each : ∀ i, i < n → ∃ zs, Ints w (slAt rs i).1 (slAt rs i).2.1 zs := fun i hi => (h3 i hi).2 (by have := sumI_each rs hi; omega)
  obtain ⟨q, hq⟩ := Go.Deep.choose_lt each
  exact ⟨(List.range n).map q, h1, by simp, by omega, h2, fun i hi => by
    rw [show intsAt ((List.range n).map q) i = q i by simp [intsAt, List.getD_eq_getElem?_getD, hi]]
    exact hq i hi⟩

end Go.Proofs.YtflojbjeloilaaaGreat
/- Words for Outcomes (three cells: a slice of numbers, two numbers); the laws' own helpers on them (toOutcome, eqOutcome, szOutcome); what an argument that is an Outcome is. -/
namespace Go.Proofs.YtflojbjeloilaaaGreat
open Go.RowKit Go.ChangeShapes Go.WideShapes

/-- Its three cells. -/
structure OcR where
  vals : Sl
  en : Int
  co : Int
def ocV (r : OcR) : Value := .agg #[slV r.vals, .int .i64 r.en, .int .i64 r.co]
def ArgOc (w : World) (r : OcR) : Prop := ArgInts w r.vals.1 r.vals.2.1
theorem ArgOc.below {w w' : World} {r : OcR} (h : ArgOc w r) (hb : Below w.heap.size w w') : ArgOc w' r := ArgInts.below h hb
def MadeOc (w : World) (r : OcR) (zs : List Int) (e : Ending) (w' : World) : Prop := ∃ v : Sl, e = .returned (ocV ⟨v, r.en, r.co⟩) ∧ Own w' w.heap.size v.1 v.2.1 v.2.2 zs ∧ Below w.heap.size w w'
/-- Two blocks of Outcomes. -/
structure DBox (w wi : World) (c0 c1 : List Value) : Prop where
  one : Blk wi w.heap.size 37 c0
  two : Blk wi (w.heap.size + 1) 37 c1
  bel : Below w.heap.size w wi
theorem DBox.below {w wi wj : World} {c0 c1 : List Value} (h : DBox w wi c0 c1) (hb : Below wi.heap.size wi wj) : DBox w wj c0 c1 :=
  ⟨h.one.below hb h.one.lt, h.two.below hb h.two.lt, h.bel.trans (hb.mono h.bel.size)⟩
theorem dbox_new (w : World) (c0 c1 : List Value) : DBox w ((w.alloc (.cells c0.toArray 37)).alloc (.cells c1.toArray 37)) c0 c1 :=
  ⟨(Blk.new w _ _).alloc _, by simpa using Blk.new (w.alloc _) 37 c1, ((Below.refl _ _).alloc (Nat.le_refl _) _).alloc (by simp) _⟩
/-- eqOutcome of what reads alike. -/
theorem eqOutcome_same (v v' : Sl) (en co : Int) (zs : List Int) (w : World) (h : Ints w v.1 v.2.1 zs) (h' : Ints w v'.1 v'.2.1 zs) :
    Calls Tryz.prog 76 #[ocV ⟨v, en, co⟩, ocV ⟨v', en, co⟩] w fun e w' => e = .returned (.bool true) ∧ Below w.heap.size w w' := by
  obtain ⟨a1, n1, c1⟩ := v
  obtain ⟨b1, m1, d1⟩ := v'
  simp only [] at h h'
  have hne1 : (en != en) = false := by simp
  have hne2 : (co != co) = false := by simp
  show Calls Tryz.prog 76 #[.agg #[.slice a1 n1 c1, .int .i64 en, .int .i64 co], .agg #[.slice b1 m1 d1, .int .i64 en, .int .i64 co]] w _
  obtain ⟨wa, HW⟩ : ∃ wa, Hid (wa = ((w.alloc (.cells #[.slice a1 n1 c1, .int .i64 en, .int .i64 co] 37)).alloc (.cells #[.slice b1 m1 d1, .int .i64 en, .int .i64 co] 37))) := ⟨_, rfl⟩
  have BX : DBox w wa [.slice a1 n1 c1, .int .i64 en, .int .i64 co] [.slice b1 m1 d1, .int .i64 en, .int .i64 co] := by rw [HW.out]; exact dbox_new w _ _
  go_enter Tryz.func76, Tryz.ntmps76
  go_wp2_with fail
  rw [← HW.out]
  refine (eqInt64S_any _ _ _ _ _ _ _ _ _ (h.below BX.bel) (h'.below BX.bel)).mono ?_
  rintro e w1 ⟨rfl, j, rfl⟩
  have hbj : Below wa.heap.size wa (wa.drewN j) := below_dn (Below.refl _ _) j
  obtain ⟨w1, HW1⟩ : ∃ w1, Hid (wa.drewN j = w1) := ⟨_, rfl⟩
  rw [HW1.out] at hbj ⊢
  have B1 := BX.below hbj
  rw [decide_eq_true rfl]
  clear BX HW HW1 hbj h h'
  have f1 := B1.one.cell (j := 1) rfl
  have f2 := B1.one.cell (j := 2) rfl
  have g1 := B1.two.cell (j := 1) rfl
  have g2 := B1.two.cell (j := 2) rfl
  have HB := Lib.hid B1.bel
  clear B1
  go_wp2
  go_ret
  exact ⟨rfl, HB.out⟩
/-- What LikeOutcomes answers. -/
def likeB (zs ys : List Int) (e c e' c' : Int) : Bool := decide (zs = ys) && (decide (e = e') && decide (c = c'))
set_option maxHeartbeats 400000 in
theorem slicesEqual_any (a b : Option Addr) (n m c d : Nat) (xs ys : List Int) (w : World) (hx : Ints w a n xs) (hy : Ints w b m ys) :
    Calls Tryz.prog 54 #[.slice a n c, .slice b m d] w fun e w' => e = .returned (.bool (decide (xs = ys))) ∧ Below w.heap.size w w' := by
  have HL := Lib.hid hx.1
  have HM := Lib.hid hy.1
  have hbd := hx.2.1
  have hbe := hy.2.1
  by_cases hnm : n = m
  · subst hnm
    have hne0 : ((n : Int) != (n : Int)) = false := by simp
    go_enter Tryz.func54, Tryz.ntmps54
    go_wp2
    go_loopw [13] (fun i wr => ∃ k : Nat, k ≤ n ∧ i = .int .i64 k ∧ EqTo xs ys k ∧ ∃ j, wr = w.drewN j) (fun i _ => n - (intOf i).toNat)
    case atStart => exact ⟨0, Nat.zero_le _, rfl, EqTo.zero _ _, 0, rfl⟩
    case round =>
      obtain ⟨k, hk, rfl, hg, j, rfl⟩ := hrel
      by_cases hlt : k < n
      · obtain ⟨b1, o1, x, rfl, hb1, hxk, hin1, hc1⟩ := hx.at_ hlt
        obtain ⟨b2, o2, y, rfl, hb2, hyk, hin2, hc2⟩ := hy.at_ hlt
        have hd1 : (w.drewN j).cell? ⟨b1, o1 + k, none⟩ = some (.int .i64 x) := hc1
        have hd2 : (w.drewN j).cell? ⟨b2, o2 + k, none⟩ = some (.int .i64 y) := hc2
        by_cases e : x = y
        · subst e
          have hne : (x != x) = false := by simp
          go_wp2
          go_quiet (fail)
          go_wp2
          go_roundw
          case rel => exact ⟨k + 1, by omega, by go_num, hg.succ hxk hyk rfl, _, rfl⟩
          case measure => simp [intOf]; omega
        · have hne : (x != y) = true := by simpa using e
          go_wp2
          go_quiet (fail)
          go_wp2
          go_ret
          exact ⟨ret_bool (decide_eq_false (fun h => e (by rw [hxk.out, hyk.out, h]))).symm, below_dn (below_dn (Below.refl _ _) _) _⟩
      · obtain rfl : n = k := by omega
        go_wp2
        go_ret
        exact ⟨ret_bool (decide_eq_true (eqTo_all (HL.out.trans HM.out.symm) (by rw [HL.out]; exact hg))).symm, below_dn (Below.refl _ _) _⟩
  · have hne : ((n : Int) != (m : Int)) = true := by simp; omega
    go_enter Tryz.func54, Tryz.ntmps54
    go_wp2
    go_ret
    exact ⟨ret_bool (decide_eq_false (fun h => hnm (by rw [← HL.out, ← HM.out, h]))).symm, Below.refl _ _⟩
set_option maxHeartbeats 800000 in
theorem implLike_any (v v' : Sl) (en co en' co' : Int) (zs ys : List Int) (w : World) (h : Ints w v.1 v.2.1 zs) (h' : Ints w v'.1 v'.2.1 ys) :
    Calls Tryz.prog 19 #[ocV ⟨v, en, co⟩, ocV ⟨v', en', co'⟩] w fun e w' => e = .returned (.bool (likeB zs ys en co en' co')) ∧ Below w.heap.size w w' := by
  obtain ⟨R, HR⟩ : ∃ R, Hid (likeB zs ys en co en' co' = R) := ⟨_, rfl⟩
  rw [HR.out]
  obtain ⟨a1, n1, c1⟩ := v
  obtain ⟨b1, m1, d1⟩ := v'
  simp only [] at h h'
  show Calls Tryz.prog 19 #[.agg #[.slice a1 n1 c1, .int .i64 en, .int .i64 co], .agg #[.slice b1 m1 d1, .int .i64 en', .int .i64 co']] w _
  obtain ⟨wa, HW⟩ : ∃ wa, Hid (wa = ((w.alloc (.cells #[.slice a1 n1 c1, .int .i64 en, .int .i64 co] 37)).alloc (.cells #[.slice b1 m1 d1, .int .i64 en', .int .i64 co'] 37))) := ⟨_, rfl⟩
  have BX : DBox w wa [.slice a1 n1 c1, .int .i64 en, .int .i64 co] [.slice b1 m1 d1, .int .i64 en', .int .i64 co'] := by rw [HW.out]; exact dbox_new w _ _
  go_enter Tryz.func19, Tryz.ntmps19
  go_wp2_with fail
  rw [← HW.out]
  refine (slicesEqual_any _ _ _ _ _ _ _ _ _ (h.below BX.bel) (h'.below BX.bel)).mono ?_
  rintro e w1 ⟨rfl, hbj⟩
  have B1 := BX.below hbj
  clear BX HW hbj h h'
  have f1 := B1.one.cell (j := 1) rfl
  have f2 := B1.one.cell (j := 2) rfl
  have g1 := B1.two.cell (j := 1) rfl
  have g2 := B1.two.cell (j := 2) rfl
  have HB := Lib.hid B1.bel
  clear B1
  cases hd : decide (zs = ys) with
  | false =>
    have HX : Hid (false = R) := Lib.hid (by rw [← HR.out, likeB, hd]; rfl)
    clear hd HR
    go_wp2
    go_ret
    exact ⟨ret_bool HX.out, HB.out⟩
  | true =>
    by_cases he : en = en'
    · have k1 : (en == en') = true := by simpa using he
      by_cases hc : co = co'
      · have k2 : (co == co') = true := by simpa using hc
        have HX : Hid (true = R) := Lib.hid (by rw [← HR.out, likeB, hd, decide_eq_true he, decide_eq_true hc]; rfl)
        clear he hc hd HR
        go_wp2
        go_ret
        exact ⟨ret_bool HX.out, HB.out⟩
      · have k2 : (co == co') = false := by simpa using hc
        have HX : Hid (false = R) := Lib.hid (by rw [← HR.out, likeB, hd, decide_eq_true he, decide_eq_false hc]; rfl)
        clear he hc hd HR
        go_wp2
        go_ret
        exact ⟨ret_bool HX.out, HB.out⟩
    · have k1 : (en == en') = false := by simpa using he
      have HX : Hid (false = R) := Lib.hid (by rw [← HR.out, likeB, hd, decide_eq_false he]; rfl)
      clear he hd HR
      go_wp2
      go_ret
      exact ⟨ret_bool HX.out, HB.out⟩
set_option maxHeartbeats 1600000 in
theorem specLike_any (v v' : Sl) (en co en' co' : Int) (zs ys : List Int) (w : World) (h : Ints w v.1 v.2.1 zs) (h' : Ints w v'.1 v'.2.1 ys) :
    Calls Tryz.prog 137 #[ocV ⟨v, en, co⟩, ocV ⟨v', en', co'⟩] w fun e w' => e = .returned (.bool (likeB zs ys en co en' co')) ∧ Below w.heap.size w w' := by
  obtain ⟨R, HR⟩ : ∃ R, Hid (likeB zs ys en co en' co' = R) := ⟨_, rfl⟩
  rw [HR.out]
  obtain ⟨a1, n, c1⟩ := v
  obtain ⟨b1, m, d1⟩ := v'
  simp only [] at h h'
  have HL := Lib.hid h.1
  have HM := Lib.hid h'.1
  have hbd := h.2.1
  have hbe := h'.2.1
  show Calls Tryz.prog 137 #[.agg #[.slice a1 n c1, .int .i64 en, .int .i64 co], .agg #[.slice b1 m d1, .int .i64 en', .int .i64 co']] w _
  obtain ⟨wa, HW⟩ : ∃ wa, Hid (wa = ((w.alloc (.cells #[.slice a1 n c1, .int .i64 en, .int .i64 co] 37)).alloc (.cells #[.slice b1 m d1, .int .i64 en', .int .i64 co'] 37))) := ⟨_, rfl⟩
  have BX : DBox w wa [.slice a1 n c1, .int .i64 en, .int .i64 co] [.slice b1 m d1, .int .i64 en', .int .i64 co'] := by rw [HW.out]; exact dbox_new w _ _
  by_cases hnm : n = m
  case neg =>
    have hne : ((n : Int) != (m : Int)) = true := by simp; omega
    have HX : Hid (false = R) := Lib.hid (by rw [← HR.out, likeB, decide_eq_false (fun e => hnm (by rw [← HL.out, ← HM.out, e]))]; rfl)
    have HB := Lib.hid BX.bel
    clear BX HR hnm h h'
    go_enter Tryz.func137, Tryz.ntmps137
    go_wp2
    go_ret
    rw [← HW.out]
    exact ⟨ret_bool HX.out, HB.out⟩
  subst hnm
  have hne0 : ((n : Int) != (n : Int)) = false := by simp
  by_cases he : en = en'
  case neg =>
    have k1 : (en != en') = true := by simpa using he
    have HX : Hid (false = R) := Lib.hid (by rw [← HR.out, likeB, decide_eq_false he]; simp)
    have HB := Lib.hid BX.bel
    clear BX HR he h h'
    go_enter Tryz.func137, Tryz.ntmps137
    go_wp2
    go_ret
    rw [← HW.out]
    exact ⟨ret_bool HX.out, HB.out⟩
  have k1 : (en != en') = false := by simpa using he
  by_cases hc : co = co'
  case neg =>
    have k2 : (co != co') = true := by simpa using hc
    have HX : Hid (false = R) := Lib.hid (by rw [← HR.out, likeB, decide_eq_false hc]; simp)
    have HB := Lib.hid BX.bel
    clear BX HR he hc h h'
    go_enter Tryz.func137, Tryz.ntmps137
    go_wp2
    go_ret
    rw [← HW.out]
    exact ⟨ret_bool HX.out, HB.out⟩
  have k2 : (co != co') = false := by simpa using hc
  have HX : Hid (decide (zs = ys) = R) := Lib.hid (by rw [← HR.out, likeB, decide_eq_true he, decide_eq_true hc]; simp)
  have HB := Lib.hid BX.bel
  have f0 : ∀ j, (wa.drewN j).cell? ⟨w.heap.size, 0, none⟩ = some (.slice a1 n c1) := fun _ => BX.one.cell (j := 0) rfl
  have f1 : ∀ j, (wa.drewN j).cell? ⟨w.heap.size + 1, 0, none⟩ = some (.slice b1 n d1) := fun _ => BX.two.cell (j := 0) rfl
  have h := h.below BX.bel
  have h' := h'.below BX.bel
  have HF0 := Lib.hid f0
  have HF1 := Lib.hid f1
  clear BX HR he hc f0 f1
  go_enter Tryz.func137, Tryz.ntmps137
  go_wp2_with fail
  rw [← HW.out]
  go_loopw [5] (fun i wr => ∃ k : Nat, k ≤ n ∧ i = .int .i64 k ∧ EqTo zs ys k ∧ ∃ j, wr = wa.drewN j) (fun i _ => n - (intOf i).toNat)
  case atStart => exact ⟨0, Nat.zero_le _, rfl, EqTo.zero _ _, 0, rfl⟩
  case round =>
    obtain ⟨k, hk, rfl, hg, j, rfl⟩ := hrel
    have f0 := HF0.out j
    have f1 := HF1.out j
    have p0 : wa.cell? ⟨w.heap.size, 0, none⟩ = some (.slice a1 n c1) := f0
    have p1 : wa.cell? ⟨w.heap.size + 1, 0, none⟩ = some (.slice b1 n d1) := f1
    by_cases hlt : k < n
    · obtain ⟨g1, o1, x, rfl, hb1, hxk, hin1, hc1⟩ := h.at_ hlt
      obtain ⟨g2, o2, y, rfl, hb2, hyk, hin2, hc2⟩ := h'.at_ hlt
      have hd1 : (wa.drewN j).cell? ⟨g1, o1 + k, none⟩ = some (.int .i64 x) := hc1
      have hd2 : (wa.drewN j).cell? ⟨g2, o2 + k, none⟩ = some (.int .i64 y) := hc2
      have f0' : ∀ n', ((wa.drewN j).drewN n').cell? ⟨w.heap.size, 0, none⟩ = some (.slice (some ⟨g1, o1, none⟩) n c1) := fun _ => f0
      have f1' : ∀ n', ((wa.drewN j).drewN n').cell? ⟨w.heap.size + 1, 0, none⟩ = some (.slice (some ⟨g2, o2, none⟩) n d1) := fun _ => f1
      have hd1' : ∀ n', ((wa.drewN j).drewN n').cell? ⟨g1, o1 + k, none⟩ = some (.int .i64 x) := fun _ => hc1
      have hd2' : ∀ n', ((wa.drewN j).drewN n').cell? ⟨g2, o2 + k, none⟩ = some (.int .i64 y) := fun _ => hc2
      by_cases e : x = y
      · subst e
        have hne : (x != x) = false := by simp
        go_wp2
        go_quiet (fail)
        go_wp2
        go_roundw
        case rel => exact ⟨k + 1, by omega, by go_num, hg.succ hxk hyk rfl, _, rfl⟩
        case measure => simp [intOf]; omega
      · have hne : (x != y) = true := by simpa using e
        go_wp2
        go_quiet (fail)
        go_wp2
        go_ret
        exact ⟨ret_bool (by rw [← HX.out]; exact (decide_eq_false (fun h => e (by rw [hxk.out, hyk.out, h]))).symm), below_dn (below_dn HB.out _) _⟩
    · obtain rfl : n = k := by omega
      go_wp2
      go_ret
      exact ⟨ret_bool (by rw [← HX.out]; exact (decide_eq_true (eqTo_all (HL.out.trans HM.out.symm) (by rw [HL.out]; exact hg))).symm), below_dn HB.out _⟩
end Go.Proofs.YtflojbjeloilaaaGreat
