/- Joined texts of this proof (EnvLaw, OutLaw, SegMath, SpecVal0), in build order. -/
import Derived.Test.YtmooecbdpfhnlaaGreatK14
import Derived.Deep.RegionHeld3
import Derived.Test.YtmooecbdpfhnlaaGreatK9
import Derived.Test.YtmooecbdpfhnlaaGreatK11
import Derived.Test.YtmooecbdpfhnlaaGreatK12
/- A law's argument that is an environment: what it is, as the statement's own reading gives it; what szEnv answers for it. -/
namespace Go.Proofs.YtmooecbdpfhnlaaGreat
open Go.RowKit Go.ChangeShapes Go.WideShapes

def RowsIA (w : World) (a : Option Addr) (n : Nat) (rs : List Sl) : Prop :=
  rs.length = n ∧ (0 < n → ∃ b o, a = some ⟨b, o, none⟩ ∧ b < w.heap.size ∧ ∀ i, i < n → w.cell? ⟨b, o + i, none⟩ = some (slV (slAt rs i))) ∧ ∀ i, i < n → ArgInts w (slAt rs i).1 (slAt rs i).2.1
/-- An argument that is a slice of slices of numbers. -/
def ArgIS (w : World) (a : Option Addr) (len : Nat) : Prop := len ≤ maxLen ∧ (len ≤ 1048576 → ∃ rs, RowsIA w a len rs)
theorem RowsIA.below {w w' : World} {a : Option Addr} {n : Nat} {rs : List Sl} (h : RowsIA w a n rs) (hb : Below w.heap.size w w') : RowsIA w' a n rs := by
  obtain ⟨h1, h2, h3⟩ := h
  refine ⟨h1, fun hp => ?_, fun i hi => (h3 i hi).below hb⟩
  obtain ⟨b, o, rfl, hbl, hc⟩ := h2 hp
  exact ⟨b, o, rfl, Nat.lt_of_lt_of_le hbl hb.size, fun i hi => (hb.cell hbl).trans (hc i hi)⟩
theorem ArgIS.below {w w' : World} {a : Option Addr} {n : Nat} (h : ArgIS w a n) (hb : Below w.heap.size w w') : ArgIS w' a n :=
  ⟨h.1, fun hn => by obtain ⟨rs, hr⟩ := h.2 hn; exact ⟨rs, hr.below hb⟩⟩
structure ArgEnv (w : World) (r : ERow) : Prop where
  vars : ArgInts w r.vars.1 r.vars.2.1
  cells : ArgIS w r.cells.1 r.cells.2.1
theorem ArgEnv.below {w w' : World} {r : ERow} (h : ArgEnv w r) (hb : Below w.heap.size w w') : ArgEnv w' r := ⟨h.vars.below hb, h.cells.below hb⟩
def sumI (rs : List Sl) : Nat → Nat
  | 0 => 0
  | k + 1 => sumI rs k + (slAt rs k).2.1
theorem sumI_mono (rs : List Sl) {j k : Nat} (h : j ≤ k) : sumI rs j ≤ sumI rs k := by
  induction k with
  | zero => obtain rfl : j = 0 := by omega
            exact Nat.le_refl _
  | succ k ih =>
    rcases Nat.lt_or_ge j (k + 1) with hlt | hge
    · exact Nat.le_trans (ih (by omega)) (by simp only [sumI]; omega)
    · obtain rfl : j = k + 1 := by omega
      exact Nat.le_refl _
theorem sumI_each (rs : List Sl) {i n : Nat} (h : i < n) : (slAt rs i).2.1 ≤ sumI rs n := by
  have := sumI_mono rs (show i + 1 ≤ n by omega)
  simp only [sumI] at this
  omega
theorem RowsIA.reads {w : World} {a : Option Addr} {n : Nat} {rs : List Sl} (h : RowsIA w a n rs) (hn : n + sumI rs n ≤ 1048576) : ∃ css, IntsSS w a n rs css := by
  obtain ⟨h1, h2, h3⟩ := h
  have each : ∀ i, i < n → ∃ zs, Ints w (slAt rs i).1 (slAt rs i).2.1 zs := fun i hi => (h3 i hi).2 (by have := sumI_each rs hi; omega)
  obtain ⟨q, hq⟩ := Go.Deep.choose_lt each
  exact ⟨(List.range n).map q, h1, by simp, by omega, h2, fun i hi => by
    rw [show intsAt ((List.range n).map q) i = q i by simp [intsAt, List.getD_eq_getElem?_getD, hi]]
    exact hq i hi⟩

end Go.Proofs.YtmooecbdpfhnlaaGreat
/- Words for Outcomes (three cells: a slice of numbers, two numbers); the laws' own helpers on them (toOutcome, eqOutcome, szOutcome); what an argument that is an Outcome is. -/
namespace Go.Proofs.YtmooecbdpfhnlaaGreat
open Go.RowKit Go.ChangeShapes Go.WideShapes

/-- Its three cells. -/
structure OcR where
  vals : Sl
  en : Int
  co : Int
def ocV (r : OcR) : Value := .agg #[slV r.vals, .int .i64 r.en, .int .i64 r.co]
def ArgOc (w : World) (r : OcR) : Prop := ArgInts w r.vals.1 r.vals.2.1
theorem ArgOc.below {w w' : World} {r : OcR} (h : ArgOc w r) (hb : Below w.heap.size w w') : ArgOc w' r := ArgInts.below h hb
def MadeOc (w : World) (r : OcR) (zs : List Int) (e : Ending) (w' : World) : Prop := ∃ v : Sl, e = .returned (ocV ⟨v, r.en, r.co⟩) ∧ Own w' w.heap.size v.1 v.2.1 v.2.2 zs ∧ Below w.heap.size w w'
/-- Two blocks of Outcomes. -/
structure DBox (w wi : World) (c0 c1 : List Value) : Prop where
  one : Blk wi w.heap.size 43 c0
  two : Blk wi (w.heap.size + 1) 43 c1
  bel : Below w.heap.size w wi
theorem DBox.below {w wi wj : World} {c0 c1 : List Value} (h : DBox w wi c0 c1) (hb : Below wi.heap.size wi wj) : DBox w wj c0 c1 :=
  ⟨h.one.below hb h.one.lt, h.two.below hb h.two.lt, h.bel.trans (hb.mono h.bel.size)⟩
theorem dbox_new (w : World) (c0 c1 : List Value) : DBox w ((w.alloc (.cells c0.toArray 43)).alloc (.cells c1.toArray 43)) c0 c1 :=
  ⟨(Blk.new w _ _).alloc _, by simpa using Blk.new (w.alloc _) 43 c1, ((Below.refl _ _).alloc (Nat.le_refl _) _).alloc (by simp) _⟩
/-- What LikeOutcomes answers. -/
def likeB (zs ys : List Int) (e c e' c' : Int) : Bool := decide (zs = ys) && (decide (e = e') && decide (c = c'))
set_option maxHeartbeats 400000 in
theorem slicesEqual_any (a b : Option Addr) (n m c d : Nat) (xs ys : List Int) (w : World) (hx : Ints w a n xs) (hy : Ints w b m ys) :
    Calls Tryz.prog 64 #[.slice a n c, .slice b m d] w fun e w' => e = .returned (.bool (decide (xs = ys))) ∧ Below w.heap.size w w' := by
  have HL := Lib.hid hx.1
  have HM := Lib.hid hy.1
  have hbd := hx.2.1
  have hbe := hy.2.1
  by_cases hnm : n = m
  · subst hnm
    have hne0 : ((n : Int) != (n : Int)) = false := by simp
    go_enter Tryz.func64, Tryz.ntmps64
    go_wp2
    go_loopw [13] (fun i wr => ∃ k : Nat, k ≤ n ∧ i = .int .i64 k ∧ EqTo xs ys k ∧ ∃ j, wr = w.drewN j) (fun i _ => n - (intOf i).toNat)
    case atStart => exact ⟨0, Nat.zero_le _, rfl, EqTo.zero _ _, 0, rfl⟩
    case round =>
      obtain ⟨k, hk, rfl, hg, j, rfl⟩ := hrel
      by_cases hlt : k < n
      · obtain ⟨b1, o1, x, rfl, hb1, hxk, hin1, hc1⟩ := hx.at_ hlt
        obtain ⟨b2, o2, y, rfl, hb2, hyk, hin2, hc2⟩ := hy.at_ hlt
        have hd1 : (w.drewN j).cell? ⟨b1, o1 + k, none⟩ = some (.int .i64 x) := hc1
        have hd2 : (w.drewN j).cell? ⟨b2, o2 + k, none⟩ = some (.int .i64 y) := hc2
        by_cases e : x = y
        · subst e
          have hne : (x != x) = false := by simp
          go_wp2
          go_quiet (fail)
          go_wp2
          go_roundw
          case rel => exact ⟨k + 1, by omega, by go_num, hg.succ hxk hyk rfl, _, rfl⟩
          case measure => simp [intOf]; omega
        · have hne : (x != y) = true := by simpa using e
          go_wp2
          go_quiet (fail)
          go_wp2
          go_ret
          exact ⟨ret_bool (decide_eq_false (fun h => e (by rw [hxk.out, hyk.out, h]))).symm, below_dn (below_dn (Below.refl _ _) _) _⟩
      · obtain rfl : n = k := by omega
        go_wp2
        go_ret
        exact ⟨ret_bool (decide_eq_true (eqTo_all (HL.out.trans HM.out.symm) (by rw [HL.out]; exact hg))).symm, below_dn (Below.refl _ _) _⟩
  · have hne : ((n : Int) != (m : Int)) = true := by simp; omega
    go_enter Tryz.func64, Tryz.ntmps64
    go_wp2
    go_ret
    exact ⟨ret_bool (decide_eq_false (fun h => hnm (by rw [← HL.out, ← HM.out, h]))).symm, Below.refl _ _⟩
set_option maxHeartbeats 800000 in
theorem implLike_any (v v' : Sl) (en co en' co' : Int) (zs ys : List Int) (w : World) (h : Ints w v.1 v.2.1 zs) (h' : Ints w v'.1 v'.2.1 ys) :
    Calls Tryz.prog 20 #[ocV ⟨v, en, co⟩, ocV ⟨v', en', co'⟩] w fun e w' => e = .returned (.bool (likeB zs ys en co en' co')) ∧ Below w.heap.size w w' := by
  obtain ⟨R, HR⟩ : ∃ R, Hid (likeB zs ys en co en' co' = R) := ⟨_, rfl⟩
  rw [HR.out]
  obtain ⟨a1, n1, c1⟩ := v
  obtain ⟨b1, m1, d1⟩ := v'
  simp only [] at h h'
  show Calls Tryz.prog 20 #[.agg #[.slice a1 n1 c1, .int .i64 en, .int .i64 co], .agg #[.slice b1 m1 d1, .int .i64 en', .int .i64 co']] w _
  obtain ⟨wa, HW⟩ : ∃ wa, Hid (wa = ((w.alloc (.cells #[.slice a1 n1 c1, .int .i64 en, .int .i64 co] 43)).alloc (.cells #[.slice b1 m1 d1, .int .i64 en', .int .i64 co'] 43))) := ⟨_, rfl⟩
  have BX : DBox w wa [.slice a1 n1 c1, .int .i64 en, .int .i64 co] [.slice b1 m1 d1, .int .i64 en', .int .i64 co'] := by rw [HW.out]; exact dbox_new w _ _
  go_enter Tryz.func20, Tryz.ntmps20
  go_wp2_with fail
  rw [← HW.out]
  refine (slicesEqual_any _ _ _ _ _ _ _ _ _ (h.below BX.bel) (h'.below BX.bel)).mono ?_
  rintro e w1 ⟨rfl, hbj⟩
  have B1 := BX.below hbj
  clear BX HW hbj h h'
  have f1 := B1.one.cell (j := 1) rfl
  have f2 := B1.one.cell (j := 2) rfl
  have g1 := B1.two.cell (j := 1) rfl
  have g2 := B1.two.cell (j := 2) rfl
  have HB := Lib.hid B1.bel
  clear B1
  cases hd : decide (zs = ys) with
  | false =>
    have HX : Hid (false = R) := Lib.hid (by rw [← HR.out, likeB, hd]; rfl)
    clear hd HR
    go_wp2
    go_ret
    exact ⟨ret_bool HX.out, HB.out⟩
  | true =>
    by_cases he : en = en'
    · have k1 : (en == en') = true := by simpa using he
      by_cases hc : co = co'
      · have k2 : (co == co') = true := by simpa using hc
        have HX : Hid (true = R) := Lib.hid (by rw [← HR.out, likeB, hd, decide_eq_true he, decide_eq_true hc]; rfl)
        clear he hc hd HR
        go_wp2
        go_ret
        exact ⟨ret_bool HX.out, HB.out⟩
      · have k2 : (co == co') = false := by simpa using hc
        have HX : Hid (false = R) := Lib.hid (by rw [← HR.out, likeB, hd, decide_eq_true he, decide_eq_false hc]; rfl)
        clear he hc hd HR
        go_wp2
        go_ret
        exact ⟨ret_bool HX.out, HB.out⟩
    · have k1 : (en == en') = false := by simpa using he
      have HX : Hid (false = R) := Lib.hid (by rw [← HR.out, likeB, hd, decide_eq_false he]; rfl)
      clear he hd HR
      go_wp2
      go_ret
      exact ⟨ret_bool HX.out, HB.out⟩
end Go.Proofs.YtmooecbdpfhnlaaGreat
/- Plain mathematics: a part of a body, cut out of it, is nested as it was, and takes as many steps. -/
namespace Go.Proofs.YtmooecbdpfhnlaaGreat

/-- The statements from lo up to hi. -/
def seg (ss : List Stm) (lo hi : Nat) : List Stm := (ss.drop lo).take (hi - lo)
theorem seg_len {ss : List Stm} {lo hi : Nat} (h1 : lo ≤ hi) (h2 : hi ≤ ss.length) : (seg ss lo hi).length = hi - lo := by
  unfold seg; rw [List.length_take, List.length_drop]; omega
theorem seg_at {ss : List Stm} {lo hi i : Nat} (h : lo + i < hi) : stAt (seg ss lo hi) i = stAt ss (lo + i) := by
  unfold seg stAt
  rw [List.getD_eq_getElem?_getD, List.getD_eq_getElem?_getD, List.getElem?_take_of_lt (by omega), List.getElem?_drop]
theorem seg_op {ss : List Stm} {lo hi i : Nat} (h : lo + i < hi) : opAt (seg ss lo hi) i = opAt ss (lo + i) := by unfold opAt; rw [seg_at h]
section
variable {ss : List Stm} {lo hi : Nat} (h1 : lo ≤ hi) (h2 : hi ≤ ss.length)
def SegB (ss : List Stm) (lo hi i : Nat) : Prop := ∀ j : Nat, blockOf ss (lo + i) = ((lo + j : Nat) : Int) → lo + j ≤ hi → blockOf (seg ss lo hi) i = (j : Int)
def SegE (ss : List Stm) (lo hi i : Nat) : Prop :=
  (∀ e : Nat, endOf ss (lo + i) = (-1, ((lo + e : Nat) : Int)) → lo + e < hi → endOf (seg ss lo hi) i = (-1, (e : Int))) ∧
  ∀ m e : Nat, endOf ss (lo + i) = (((lo + m : Nat) : Int), ((lo + e : Nat) : Int)) → lo + e < hi → endOf (seg ss lo hi) i = ((m : Int), (e : Int))
include h1 h2 in
theorem segE_of {i : Nat} (hi' : lo + i < hi) (hb : ∀ j, i < j → lo + j ≤ hi → SegB ss lo hi j) : SegE ss lo hi i := by
  have hl := seg_len h1 h2
  have hs : i < (seg ss lo hi).length := by omega
  have hlt : lo + i < ss.length := by omega
  obtain ⟨M, hM⟩ : ∃ M, blockOf ss (lo + i + 1) = M := ⟨_, rfl⟩
  have hin := block_in ss (i := lo + i + 1) (by omega)
  rw [hM] at hin
  have heq := end_eq hlt hM
  have hop := seg_op (ss := ss) hi'
  have at_ : ∀ (k : Nat) (op : Int), lo + k < hi → isAt ss ((lo + k : Nat) : Int) op = isAt (seg ss lo hi) (k : Int) op := fun k op hk => by
    simp only [isAt, Int.toNat_natCast, seg_op hk]
    congr 1
    rw [decide_eq_true (by omega), decide_eq_true (by omega), decide_eq_true (by omega), decide_eq_true (by omega)]
  have one : ∀ e : Nat, M = ((lo + e : Nat) : Int) → lo + e < hi → blockOf (seg ss lo hi) (i + 1) = (e : Int) := fun e he hlt => by
    rcases hin with q | q
    · omega
    · exact hb (i + 1) (by omega) (by omega) e (by rw [← Nat.add_assoc, hM, he]) (by omega)
  have two : ∀ m e : Nat, i < m → lo + m < hi → blockOf ss (lo + m + 1) = ((lo + e : Nat) : Int) → lo + e < hi → blockOf (seg ss lo hi) (m + 1) = (e : Int) := fun m e him hm he hlt =>
    hb (m + 1) (by omega) (by omega) e (by rw [← Nat.add_assoc, he]) (by omega)
  refine ⟨fun e he hlt' => ?_, fun m e he hlt' => ?_⟩
  · rw [he] at heq
    -- the end is M
    have hMe : M = ((lo + e : Nat) : Int) ∧ isAt ss M 4 = true ∧ (opAt ss (lo + i) = 5 ∨ opAt ss (lo + i) = 2) := by
      split at heq
      · rename_i ho
        split at heq
        · rename_i h4; injection heq with q1 q2; exact ⟨q2.symm, h4, .inl ho⟩
        · injection heq with q1 q2; omega
      · split at heq
        · rename_i ho
          split at heq
          · rename_i h4; injection heq with q1 q2; exact ⟨q2.symm, h4, .inr ho⟩
          · split at heq
            · rename_i h3
              have := isAt_range h3
              split at heq
              · injection heq with q1 q2; omega
              · injection heq with q1 q2; omega
            · injection heq with q1 q2; omega
        · split at heq
          · split at heq
            · rename_i h3
              have := isAt_range h3
              split at heq
              · injection heq with q1 q2; omega
              · injection heq with q1 q2; omega
            · injection heq with q1 q2; omega
          · injection heq with q1 q2; omega
    obtain ⟨q1, q2, q3⟩ := hMe
    rw [end_eq hs (one e q1 hlt'), hop]
    rw [q1, at_ e 4 hlt'] at q2
    rcases q3 with q3 | q3
    · rw [if_pos q3, if_pos q2]
    · rw [if_neg (by omega), if_pos q3, if_pos q2]
  · rw [he] at heq
    have hMe : M = ((lo + m : Nat) : Int) ∧ blockOf ss (M.toNat + 1) = ((lo + e : Nat) : Int) ∧ isAt ss (blockOf ss (M.toNat + 1)) 4 = true ∧ ((opAt ss (lo + i) = 2 ∧ isAt ss M 4 = false ∧ isAt ss M 3 = true) ∨ (opAt ss (lo + i) = 8 ∧ isAt ss M 9 = true)) := by
      split at heq
      · split at heq
        · injection heq with q1 q2; omega
        · injection heq with q1 q2; omega
      · split at heq
        · rename_i ho
          split at heq
          · injection heq with q1 q2; omega
          · rename_i h4
            split at heq
            · rename_i h3
              split at heq
              · rename_i h5; injection heq with q1 q2; exact ⟨q1.symm, q2.symm, h5, .inl ⟨ho, by simpa using h4, h3⟩⟩
              · injection heq with q1 q2; omega
            · injection heq with q1 q2; omega
        · split at heq
          · rename_i ho
            split at heq
            · rename_i h3
              split at heq
              · rename_i h5; injection heq with q1 q2; exact ⟨q1.symm, q2.symm, h5, .inr ⟨ho, h3⟩⟩
              · injection heq with q1 q2; omega
            · injection heq with q1 q2; omega
          · injection heq with q1 q2; omega
    obtain ⟨q1, q2, q3, q4⟩ := hMe
    have hmi : i < m := by rcases hin with q | q <;> omega
    have hr := isAt_range q3
    rw [q2] at q3
    rw [q1, Int.toNat_natCast] at q2
    have hin2 := block_in ss (i := lo + m + 1) (by
      rcases q4 with ⟨_, _, h3⟩ | ⟨_, h3⟩
      · have := isAt_range h3; omega
      · have := isAt_range h3; omega)
    rw [q2] at hin2
    have hme : m < e := by rcases hin2 with q | q <;> omega
    have hb1 := one m q1 (by omega)
    have hb2 := two m e hmi (by omega) q2 hlt'
    rw [at_ e 4 hlt'] at q3
    rw [end_eq hs hb1, hop, Int.toNat_natCast, hb2]
    rcases q4 with ⟨ho, h4, h3⟩ | ⟨ho, h9⟩
    · rw [q1, at_ m _ (by omega)] at h4 h3
      rw [if_neg (by omega), if_pos ho, if_neg (by rw [h4]; simp), if_pos h3, if_pos q3]
    · rw [q1, at_ m _ (by omega)] at h9
      rw [if_neg (by omega), if_neg (by omega), if_pos ho, if_pos h9, if_pos q3]
include h1 h2 in
theorem segB_of {i : Nat} (hi' : lo + i ≤ hi) (he : lo + i < hi → SegE ss lo hi i) (hb : ∀ j, i < j → lo + j ≤ hi → SegB ss lo hi j) : SegB ss lo hi i := by
  have hl := seg_len h1 h2
  intro j hj hjh
  have hin := block_in ss (i := lo + i) (by omega)
  rw [hj] at hin
  have hij : i ≤ j := by rcases hin with q | q <;> omega
  rcases Nat.lt_or_ge (lo + i) hi with hlt | hge
  case inr =>
    obtain rfl : i = j := by omega
    rw [block_past (by omega)]
  have hs : i < (seg ss lo hi).length := by omega
  have hl2 : lo + i < ss.length := by omega
  have hop := seg_op (ss := ss) hlt
  by_cases hst : opAt ss (lo + i) = 3 ∨ opAt ss (lo + i) = 9 ∨ opAt ss (lo + i) = 4
  · rw [block_stop hl2 hst] at hj
    obtain rfl : i = j := by omega
    rw [block_stop hs (by rw [hop]; exact hst)]
  by_cases ho : opAt ss (lo + i) = 2 ∨ opAt ss (lo + i) = 5 ∨ opAt ss (lo + i) = 8
  case neg =>
    rw [block_next hl2 hst ho] at hj
    rw [block_next hs (by rw [hop]; exact hst) (by rw [hop]; exact ho)]
    exact hb (i + 1) (by omega) (by omega) j (by rw [← Nat.add_assoc, hj]) hjh
  by_cases hneg : (endOf ss (lo + i)).2 < 0
  · rw [block_bad hl2 ho hneg] at hj; omega
  have hE := end_in ss hl2
  obtain ⟨⟨p1, p2⟩, hP⟩ : ∃ P, endOf ss (lo + i) = P := ⟨_, rfl⟩
  rw [block_over hl2 ho (by omega)] at hj
  rw [hP] at hE hneg hj
  simp only [] at hneg hj
  have hin2 : ((lo + i : Nat) : Int) < p2 ∧ p2 < ss.length ∧ (p1 = -1 ∨ (((lo + i : Nat) : Int) < p1 ∧ p1 < p2)) := by
    rcases hE with q | q
    · injection q with q1 q2; omega
    · exact q
  obtain ⟨e, rfl⟩ : ∃ e : Nat, p2 = ((lo + e : Nat) : Int) := ⟨(p2 - lo).toNat, by omega⟩
  rw [Int.toNat_natCast] at hj
  have hinj := block_in ss (i := lo + e + 1) (by omega)
  rw [hj] at hinj
  have hej : e < j := by rcases hinj with q | q <;> omega
  have hend : (endOf (seg ss lo hi) i).2 = (e : Int) := by
    rcases hin2.2.2 with q | q
    · subst q
      rw [(he hlt).1 e hP (by omega)]
    · obtain ⟨m, rfl⟩ : ∃ m : Nat, p1 = ((lo + m : Nat) : Int) := ⟨(p1 - lo).toNat, by omega⟩
      rw [(he hlt).2 m e hP (by omega)]
  rw [block_over hs (by rw [hop]; exact ho) (by rw [hend]; omega), hend, Int.toNat_natCast]
  exact hb (e + 1) (by omega) (by omega) j (by rw [← Nat.add_assoc, hj]) hjh
include h1 h2 in
theorem seg_all : ∀ (d i : Nat), hi - (lo + i) ≤ d → lo + i ≤ hi → SegB ss lo hi i ∧ (lo + i < hi → SegE ss lo hi i)
  | 0, i, hd, hi' => ⟨segB_of h1 h2 hi' (fun h => absurd h (by omega)) (fun j ha hb => absurd ha (by omega)), fun h => absurd h (by omega)⟩
  | d + 1, i, hd, hi' => by
    have hb : ∀ j, i < j → lo + j ≤ hi → SegB ss lo hi j := fun j ha hb => (seg_all d j (by omega) hb).1
    have he : lo + i < hi → SegE ss lo hi i := fun h => segE_of h1 h2 h hb
    exact ⟨segB_of h1 h2 hi' he hb, he⟩
include h1 h2 in
theorem seg_end {i : Nat} (h : lo + i < hi) : SegE ss lo hi i := (seg_all h1 h2 _ i (Nat.le_refl _) (by omega)).2 h
include h1 h2 in
theorem steps_seg {i j s : Nat} (h : Steps ss i j s) : ∀ i' j', i = lo + i' → j = lo + j' → j ≤ hi → Steps (seg ss lo hi) i' j' s := by
  have hl := seg_len h1 h2
  induction h with
  | nil i =>
    intro i' j' e1 e2 _
    obtain rfl : i' = j' := by omega
    exact .nil _
  | @plain i j s hi' g2 g5 g8 t ih =>
    intro i' j' e1 e2 hj
    subst e1 e2
    have hle := (steps_small t).1
    have hop := seg_op (ss := ss) (lo := lo) (hi := hi) (i := i') (by omega)
    exact .plain (by omega) (by rw [hop]; exact g2) (by rw [hop]; exact g5) (by rw [hop]; exact g8) (ih (i' + 1) j' (by omega) rfl hj)
  | @one i e j s t hi' g2 he p q ih1 ih2 =>
    intro i' j' e1 e2 hj
    subst e1 e2
    have hle := (steps_small p).1
    have hle2 := (steps_small q).1
    obtain ⟨e', rfl⟩ : ∃ e', e = lo + e' := ⟨e - lo, by omega⟩
    have hop := seg_op (ss := ss) (lo := lo) (hi := hi) (i := i') (by omega)
    exact .one (by omega) (by rw [hop]; exact g2) ((seg_end h1 h2 (by omega)).1 e' he (by omega)) (ih1 (i' + 1) e' (by omega) rfl (by omega)) (ih2 (e' + 1) j' (by omega) rfl hj)
  | @two i m e j s s' t hi' g2 he p p' q ih1 ih2 ih3 =>
    intro i' j' e1 e2 hj
    subst e1 e2
    have hle := (steps_small p).1
    have hle2 := (steps_small p').1
    have hle3 := (steps_small q).1
    obtain ⟨m', rfl⟩ : ∃ m', m = lo + m' := ⟨m - lo, by omega⟩
    obtain ⟨e', rfl⟩ : ∃ e', e = lo + e' := ⟨e - lo, by omega⟩
    have hop := seg_op (ss := ss) (lo := lo) (hi := hi) (i := i') (by omega)
    exact .two (by omega) (by rw [hop]; exact g2) ((seg_end h1 h2 (by omega)).2 m' e' he (by omega)) (ih1 (i' + 1) m' (by omega) rfl (by omega)) (ih2 (m' + 1) e' (by omega) rfl (by omega)) (ih3 (e' + 1) j' (by omega) rfl hj)
  | @loop i e j k s t hi' g5 he hk h4 p q ih1 ih2 =>
    intro i' j' e1 e2 hj
    subst e1 e2
    have hle := (steps_small p).1
    have hle2 := (steps_small q).1
    obtain ⟨e', rfl⟩ : ∃ e', e = lo + e' := ⟨e - lo, by omega⟩
    have hop := seg_op (ss := ss) (lo := lo) (hi := hi) (i := i') (by omega)
    have hat := seg_at (ss := ss) (lo := lo) (hi := hi) (i := i') (by omega)
    exact .loop (by omega) (by rw [hop]; exact g5) ((seg_end h1 h2 (by omega)).1 e' he (by omega)) (by rw [hat]; exact hk) h4 (ih1 (i' + 1) e' (by omega) rfl (by omega)) (ih2 (e' + 1) j' (by omega) rfl hj)
  | @attempt i m e j s s' t hi' g8 he p p' q ih1 ih2 ih3 =>
    intro i' j' e1 e2 hj
    subst e1 e2
    have hle := (steps_small p).1
    have hle2 := (steps_small p').1
    have hle3 := (steps_small q).1
    obtain ⟨m', rfl⟩ : ∃ m', m = lo + m' := ⟨m - lo, by omega⟩
    obtain ⟨e', rfl⟩ : ∃ e', e = lo + e' := ⟨e - lo, by omega⟩
    have hop := seg_op (ss := ss) (lo := lo) (hi := hi) (i := i') (by omega)
    exact .attempt (by omega) (by rw [hop]; exact g8) ((seg_end h1 h2 (by omega)).2 m' e' he (by omega)) (ih1 (i' + 1) m' (by omega) rfl (by omega)) (ih2 (m' + 1) e' (by omega) rfl (by omega)) (ih3 (e' + 1) j' (by omega) rfl hj)
end
/-- A part, cut out: as many steps. -/
theorem part_seg {ss : List Stm} {i j s : Nat} (h : Steps ss i j s) (hj : j ≤ ss.length) : Steps (seg ss i j) 0 (j - i) s :=
  steps_seg (steps_small h).1 hj h 0 (j - i) rfl (by have := (steps_small h).1; omega) (Nat.le_refl _)
end Go.Proofs.YtmooecbdpfhnlaaGreat
/- The contracts of the model's l5Bit, l5Shift, l5Bits, l5Op: what a Term makes of values. -/
namespace Go.Proofs.YtmooecbdpfhnlaaGreat
open Go.RowKit

def shiftF (up : Bool) (S a k : Nat) : Nat := match up with | true => a * 2 ^ k % S | false => a / 2 ^ k
theorem shiftF_zero (up : Bool) {S a : Nat} (h : a < S) : shiftF up S a 0 = a := by cases up <;> simp [shiftF, Nat.mod_eq_of_lt h]
theorem shiftF_nought (up : Bool) (S k : Nat) : shiftF up S 0 k = 0 := by cases up <;> simp [shiftF]
theorem shiftF_up (S a k : Nat) (hk : 0 < k) : shiftF true S (a * 2 % S) (k - 1) = shiftF true S a k := by
  obtain ⟨j, rfl⟩ : ∃ j, k = j + 1 := ⟨k - 1, by omega⟩
  simp only [shiftF, Nat.add_sub_cancel]
  rw [Nat.mod_mul_mod, Nat.pow_succ, Nat.mul_assoc, Nat.mul_comm 2]
theorem shiftF_down (S a k : Nat) (hk : 0 < k) : shiftF false S (a / 2) (k - 1) = shiftF false S a k := by
  obtain ⟨j, rfl⟩ : ∃ j, k = j + 1 := ⟨k - 1, by omega⟩
  simp only [shiftF, Nat.add_sub_cancel]
  rw [Nat.div_div_eq_div_mul, Nat.pow_succ, Nat.mul_comm 2]
def bi (b : Bool) : Nat := if b = true then 1 else 0

theorem l5Bit_any (b : Bool) (w : World) : Calls Tryz.prog 196 #[.bool b] w fun e w' => e = .returned (.int .i64 (bi b : Int)) ∧ w = w' := by
  cases b
  all_goals
    go_enter Tryz.func196, Tryz.ntmps196
    go_wp2
    go_ret
    exact ⟨rfl, rfl⟩
set_option maxHeartbeats 800000 in
theorem l5Shift_any (up : Bool) (S a k : Nat) (w : World) (hS : S ≤ 256) (ha : a < S) (hk : k < 256) :
    Calls Tryz.prog 195 #[.int .i64 (S : Int), .int .i64 (a : Int), .int .i64 (k : Int), .bool up] w fun e w' => e = .returned (.int .i64 (shiftF up S a k : Int)) ∧ w = w' := by
  obtain ⟨R, HR⟩ : ∃ R, Hid (shiftF up S a k = R) := ⟨_, rfl⟩
  rw [HR.out]
  go_enter Tryz.func195, Tryz.ntmps195
  go_wp2
  go_loop [1, 2] (fun q i => ∃ x y : Nat, x < S ∧ y < 256 ∧ q = .int .i64 (x : Int) ∧ i = .int .i64 (y : Int) ∧ Hid (shiftF up S x y = R)) (fun _ i => (intOf i).toNat)
  case atStart => exact ⟨a, k, ha, hk, rfl, rfl, HR⟩
  case round =>
    obtain ⟨x, y, hx, hy, rfl, rfl, hs⟩ := hrel
    clear HR ha hk
    by_cases hy0 : 0 < y
    · by_cases hx0 : 0 < x
      · cases up with
        | true =>
          have hm : Int.tmod ((x : Int) * 2) (S : Int) = ((x * 2 % S : Nat) : Int) := by
            rw [Int.tmod_eq_emod_of_nonneg (by omega)]; rfl
          have hn := Lib.hid (shiftF_up S x y hy0)
          have hl : x * 2 % S < S := Nat.mod_lt _ (by omega)
          go_wp2
          go_round
          case rel => exact ⟨x * 2 % S, y - 1, hl, by omega, by go_num, by go_num, by rw [hn.out]; exact hs⟩
          case measure => simp [intOf]; omega
        | false =>
          have hm : Int.tdiv (x : Int) 2 = ((x / 2 : Nat) : Int) := by
            rw [Int.tdiv_eq_ediv_of_nonneg (by omega)]; rfl
          have hn := Lib.hid (shiftF_down S x y hy0)
          have hl : x / 2 < S := by omega
          go_wp2
          go_round
          case rel => exact ⟨x / 2, y - 1, hl, by omega, by go_num, by go_num, by rw [hn.out]; exact hs⟩
          case measure => simp [intOf]; omega
      · have : x = 0 := by omega
        subst this
        have hR := hs.out
        rw [shiftF_nought] at hR
        subst hR
        go_wp2
        go_ret
        exact ⟨rfl, rfl⟩
    · have : y = 0 := by omega
      subst this
      have hR := hs.out
      rw [shiftF_zero _ hx] at hR
      subst hR
      go_wp2
      go_ret
      exact ⟨rfl, rfl⟩
set_option maxHeartbeats 1600000 in
theorem l5Bits_any (how W a b : Nat) (w : World) (hh : how ≤ 2) (hW : W ≤ 8) (ha : a < 2 ^ W) (hb : b < 2 ^ W) :
    Calls Tryz.prog 194 #[.int .i64 ((2 ^ W : Nat) : Int), .int .i64 (a : Int), .int .i64 (b : Int), .int .i64 (how : Int)] w fun e w' => e = .returned (.int .i64 (bitF how a b : Int)) ∧ w = w' := by
  have hS : 2 ^ W ≤ 2 ^ 8 := Nat.pow_le_pow_right (by omega) hW
  have HR := Lib.hid (Nat.mod_eq_of_lt (bitF_lt how ha hb))
  have HL := Lib.hid (bitF_lt how ha hb)
  have HST := Lib.hid (fun k => bitF_succ how a b k)
  obtain ⟨R, HR0⟩ : ∃ R, Hid (bitF how a b = R) := ⟨_, rfl⟩
  simp only [HR0.out] at HR HL HST ⊢
  obtain ⟨S, HS⟩ : ∃ S : Nat, Hid (2 ^ W = S) := ⟨_, Lib.hid rfl⟩
  simp only [HS.out] at hS ha hb HR HL ⊢
  have hh3 : how = 0 ∨ how = 1 ∨ how = 2 := by omega
  rcases hh3 with rfl | rfl | rfl
  · rw [show ((0 : Nat) : Int) = 0 from rfl]
    go_enter Tryz.func194, Tryz.ntmps194
    go_wp2
    go_loop [9, 10] (fun q i => ∃ k : Nat, k ≤ W ∧ i = .int .i64 ((2 ^ k : Nat) : Int) ∧ q = .int .i64 ((R % 2 ^ k : Nat) : Int)) (fun _ i => S - (intOf i).toNat)
    case atStart => exact ⟨0, Nat.zero_le _, rfl, by rw [Nat.pow_zero, Nat.mod_one]; rfl⟩
    case round =>
      obtain ⟨k, hk, rfl, rfl⟩ := hrel
      by_cases hlt : k < W
      · have hu : 2 ^ k < S := by rw [← HS.out]; exact Nat.pow_lt_pow_right (by omega) hlt
        have hu0 : 0 < 2 ^ k := Nat.pow_pos (by omega)
        have hst := Lib.hid (HST.out k)
        have hsu := Lib.hid (Nat.pow_succ (n := 2) (m := k))
        have hrm : R % 2 ^ k < 2 ^ k := Nat.mod_lt _ hu0
        obtain ⟨u, HU⟩ : ∃ u : Nat, Hid (2 ^ k = u) := ⟨_, Lib.hid rfl⟩
        obtain ⟨u', HU'⟩ : ∃ r : Nat, Hid (2 ^ (k + 1) = r) := ⟨_, Lib.hid rfl⟩
        simp only [HU.out, HU'.out] at hu hu0 hst hsu hrm ⊢
        obtain ⟨r, HQ⟩ : ∃ r : Nat, Hid (R % u = r) := ⟨_, Lib.hid rfl⟩
        obtain ⟨r', HQ'⟩ : ∃ r : Nat, Hid (R % u' = r) := ⟨_, Lib.hid rfl⟩
        simp only [HQ.out, HQ'.out] at hst hrm ⊢
        have d1 : Int.tdiv (a : Int) (u : Int) = ((a / u : Nat) : Int) := by rw [Int.tdiv_eq_ediv_of_nonneg (by omega)]; rfl
        have d2 : Int.tdiv (b : Int) (u : Int) = ((b / u : Nat) : Int) := by rw [Int.tdiv_eq_ediv_of_nonneg (by omega)]; rfl
        have m1 : Int.tmod ((a / u : Nat) : Int) 2 = ((a / u % 2 : Nat) : Int) := by rw [Int.tmod_eq_emod_of_nonneg (Int.natCast_nonneg _)]; rfl
        have m2 : Int.tmod ((b / u : Nat) : Int) 2 = ((b / u % 2 : Nat) : Int) := by rw [Int.tmod_eq_emod_of_nonneg (Int.natCast_nonneg _)]; rfl
        have q1 : a / u ≤ a := Nat.div_le_self _ _
        have q2 : b / u ≤ b := Nat.div_le_self _ _
        generalize a / u = A at d1 m1 hst q1
        generalize b / u = B at d2 m2 hst q2
        have p1 : A % 2 < 2 := Nat.mod_lt _ (by omega)
        have p2 : B % 2 < 2 := Nat.mod_lt _ (by omega)
        generalize A % 2 = x at m1 hst p1
        generalize B % 2 = y at m2 hst p2
        have hx : x = 0 ∨ x = 1 := by omega
        have hy : y = 0 ∨ y = 1 := by omega
        clear p1 p2
        rcases hx with rfl | rfl <;> rcases hy with rfl | rfl
        all_goals
          have hst' := hst.out
          simp [bit1] at hst'
          have HE := Lib.hid hst'
          clear hst' hst
          go_wp2
          go_round
          case rel => exact ⟨k + 1, by omega, by rw [HU'.out, hsu.out]; go_num, by rw [HU'.out, HQ'.out, HE.out] <;> first | rfl | go_num | simp⟩
          case measure => simp [intOf]; omega
      · obtain rfl : W = k := by omega
        rw [HS.out, HR.out]
        clear HR HL HST
        go_wp2
        go_ret
        exact ⟨rfl, rfl⟩
  · rw [show ((1 : Nat) : Int) = 1 from rfl]
    go_enter Tryz.func194, Tryz.ntmps194
    go_wp2
    go_loopw [9, 10] (fun q i wr => ∃ k : Nat, k ≤ W ∧ i = .int .i64 ((2 ^ k : Nat) : Int) ∧ q = .int .i64 ((R % 2 ^ k : Nat) : Int) ∧ Hid (w = wr)) (fun _ i _ => S - (intOf i).toNat)
    case atStart => exact ⟨0, Nat.zero_le _, rfl, by rw [Nat.pow_zero, Nat.mod_one]; rfl, Lib.hid rfl⟩
    case round =>
      obtain ⟨k, hk, rfl, rfl, HWR⟩ := hrel
      by_cases hlt : k < W
      · have hu : 2 ^ k < S := by rw [← HS.out]; exact Nat.pow_lt_pow_right (by omega) hlt
        have hu0 : 0 < 2 ^ k := Nat.pow_pos (by omega)
        have hst := Lib.hid (HST.out k)
        have hsu := Lib.hid (Nat.pow_succ (n := 2) (m := k))
        have hrm : R % 2 ^ k < 2 ^ k := Nat.mod_lt _ hu0
        obtain ⟨u, HU⟩ : ∃ u : Nat, Hid (2 ^ k = u) := ⟨_, Lib.hid rfl⟩
        obtain ⟨u', HU'⟩ : ∃ r : Nat, Hid (2 ^ (k + 1) = r) := ⟨_, Lib.hid rfl⟩
        simp only [HU.out, HU'.out] at hu hu0 hst hsu hrm ⊢
        obtain ⟨r, HQ⟩ : ∃ r : Nat, Hid (R % u = r) := ⟨_, Lib.hid rfl⟩
        obtain ⟨r', HQ'⟩ : ∃ r : Nat, Hid (R % u' = r) := ⟨_, Lib.hid rfl⟩
        simp only [HQ.out, HQ'.out] at hst hrm ⊢
        have d1 : Int.tdiv (a : Int) (u : Int) = ((a / u : Nat) : Int) := by rw [Int.tdiv_eq_ediv_of_nonneg (by omega)]; rfl
        have d2 : Int.tdiv (b : Int) (u : Int) = ((b / u : Nat) : Int) := by rw [Int.tdiv_eq_ediv_of_nonneg (by omega)]; rfl
        have m1 : Int.tmod ((a / u : Nat) : Int) 2 = ((a / u % 2 : Nat) : Int) := by rw [Int.tmod_eq_emod_of_nonneg (Int.natCast_nonneg _)]; rfl
        have m2 : Int.tmod ((b / u : Nat) : Int) 2 = ((b / u % 2 : Nat) : Int) := by rw [Int.tmod_eq_emod_of_nonneg (Int.natCast_nonneg _)]; rfl
        have q1 : a / u ≤ a := Nat.div_le_self _ _
        have q2 : b / u ≤ b := Nat.div_le_self _ _
        generalize a / u = A at d1 m1 hst q1
        generalize b / u = B at d2 m2 hst q2
        have p1 : A % 2 < 2 := Nat.mod_lt _ (by omega)
        have p2 : B % 2 < 2 := Nat.mod_lt _ (by omega)
        generalize A % 2 = x at m1 hst p1
        generalize B % 2 = y at m2 hst p2
        have hx : x = 0 ∨ x = 1 := by omega
        have hy : y = 0 ∨ y = 1 := by omega
        clear p1 p2
        rcases hx with rfl | rfl <;> rcases hy with rfl | rfl
        all_goals
          have hst' := hst.out
          simp [bit1] at hst'
          have HE := Lib.hid hst'
          clear hst' hst
          have x00 : max (0 : Int) 0 = 0 := rfl
          have x01 : max (0 : Int) 1 = 1 := rfl
          have x10 : max (1 : Int) 0 = 1 := rfl
          have x11 : max (1 : Int) 1 = 1 := rfl
          go_wp2_with fail
          refine (l1Max_any _ _ _).mono ?_
          rintro e w1 ⟨rfl, rfl⟩
          go_wp2
          go_roundw
          case rel => exact ⟨k + 1, by omega, by rw [HU'.out, hsu.out]; go_num, by rw [HU'.out, HQ'.out, HE.out] <;> first | rfl | go_num | simp, HWR⟩
          case measure => simp [intOf]; omega
      · obtain rfl : W = k := by omega
        rw [HS.out, HR.out]
        clear HR HL HST
        go_wp2
        go_ret
        exact ⟨rfl, HWR.out⟩
  · rw [show ((2 : Nat) : Int) = 2 from rfl]
    go_enter Tryz.func194, Tryz.ntmps194
    go_wp2
    go_loop [9, 10] (fun q i => ∃ k : Nat, k ≤ W ∧ i = .int .i64 ((2 ^ k : Nat) : Int) ∧ q = .int .i64 ((R % 2 ^ k : Nat) : Int)) (fun _ i => S - (intOf i).toNat)
    case atStart => exact ⟨0, Nat.zero_le _, rfl, by rw [Nat.pow_zero, Nat.mod_one]; rfl⟩
    case round =>
      obtain ⟨k, hk, rfl, rfl⟩ := hrel
      by_cases hlt : k < W
      · have hu : 2 ^ k < S := by rw [← HS.out]; exact Nat.pow_lt_pow_right (by omega) hlt
        have hu0 : 0 < 2 ^ k := Nat.pow_pos (by omega)
        have hst := Lib.hid (HST.out k)
        have hsu := Lib.hid (Nat.pow_succ (n := 2) (m := k))
        have hrm : R % 2 ^ k < 2 ^ k := Nat.mod_lt _ hu0
        obtain ⟨u, HU⟩ : ∃ u : Nat, Hid (2 ^ k = u) := ⟨_, Lib.hid rfl⟩
        obtain ⟨u', HU'⟩ : ∃ r : Nat, Hid (2 ^ (k + 1) = r) := ⟨_, Lib.hid rfl⟩
        simp only [HU.out, HU'.out] at hu hu0 hst hsu hrm ⊢
        obtain ⟨r, HQ⟩ : ∃ r : Nat, Hid (R % u = r) := ⟨_, Lib.hid rfl⟩
        obtain ⟨r', HQ'⟩ : ∃ r : Nat, Hid (R % u' = r) := ⟨_, Lib.hid rfl⟩
        simp only [HQ.out, HQ'.out] at hst hrm ⊢
        have d1 : Int.tdiv (a : Int) (u : Int) = ((a / u : Nat) : Int) := by rw [Int.tdiv_eq_ediv_of_nonneg (by omega)]; rfl
        have d2 : Int.tdiv (b : Int) (u : Int) = ((b / u : Nat) : Int) := by rw [Int.tdiv_eq_ediv_of_nonneg (by omega)]; rfl
        have m1 : Int.tmod ((a / u : Nat) : Int) 2 = ((a / u % 2 : Nat) : Int) := by rw [Int.tmod_eq_emod_of_nonneg (Int.natCast_nonneg _)]; rfl
        have m2 : Int.tmod ((b / u : Nat) : Int) 2 = ((b / u % 2 : Nat) : Int) := by rw [Int.tmod_eq_emod_of_nonneg (Int.natCast_nonneg _)]; rfl
        have q1 : a / u ≤ a := Nat.div_le_self _ _
        have q2 : b / u ≤ b := Nat.div_le_self _ _
        generalize a / u = A at d1 m1 hst q1
        generalize b / u = B at d2 m2 hst q2
        have p1 : A % 2 < 2 := Nat.mod_lt _ (by omega)
        have p2 : B % 2 < 2 := Nat.mod_lt _ (by omega)
        generalize A % 2 = x at m1 hst p1
        generalize B % 2 = y at m2 hst p2
        have hx : x = 0 ∨ x = 1 := by omega
        have hy : y = 0 ∨ y = 1 := by omega
        clear p1 p2
        rcases hx with rfl | rfl <;> rcases hy with rfl | rfl
        all_goals
          have hst' := hst.out
          simp [bit1] at hst'
          have HE := Lib.hid hst'
          clear hst' hst
          go_wp2
          go_round
          case rel => exact ⟨k + 1, by omega, by rw [HU'.out, hsu.out]; go_num, by rw [HU'.out, HQ'.out, HE.out] <;> first | rfl | go_num | simp⟩
          case measure => simp [intOf]; omega
      · obtain rfl : W = k := by omega
        rw [HS.out, HR.out]
        clear HR HL HST
        go_wp2
        go_ret
        exact ⟨rfl, rfl⟩
set_option maxHeartbeats 1600000 in
theorem l5Op_any (W a b : Nat) (op : Int) (w : World) (hW : W ≤ 8) (ha : a < 2 ^ W) (hb : b < 2 ^ W) (h3 : 3 ≤ op) (h16 : op ≤ 16) :
    Calls Tryz.prog 175 #[.int .i64 ((2 ^ W : Nat) : Int), .int .i64 op, .int .i64 (a : Int), .int .i64 (b : Int)] w fun e w' => e = .returned (.int .i64 (opN (2 ^ W) op a b : Int)) ∧ w = w' := by
  have hS : 2 ^ W ≤ 2 ^ 8 := Nat.pow_le_pow_right (by omega) hW
  have HBT := Lib.hid (fun (how : Nat) (hh : how ≤ 2) (w' : World) => l5Bits_any how W a b w' hh hW ha hb)
  obtain ⟨S, HS⟩ : ∃ S : Nat, Hid (2 ^ W = S) := ⟨_, Lib.hid rfl⟩
  simp only [HS.out] at hS ha hb HBT ⊢
  clear HS hW
  have hmul : a * b ≤ 255 * 255 := Nat.mul_le_mul (by omega) (by omega)
  obtain ⟨R, HR⟩ : ∃ R, Hid (opN S op a b = R) := ⟨_, rfl⟩
  rw [HR.out]
  by_cases k3 : op = 3
  · subst k3
    have hR : R = S - 1 - a := by rw [← HR.out]; rfl
    subst hR
    go_enter Tryz.func175, Tryz.ntmps175
    go_wp2
    go_ret
    exact ⟨by first | rfl | go_num, rfl⟩
  by_cases k4 : op = 4
  · subst k4
    have hR : R = (S - a) % S := by rw [← HR.out]; rfl
    subst hR
    have hm : Int.tmod ((S : Int) - (a : Int)) (S : Int) = (((S - a) % S : Nat) : Int) := by rw [Int.tmod_eq_emod_of_nonneg (by omega), show ((S : Int) - (a : Int)) = ((S - a : Nat) : Int) by omega]; rfl
    go_enter Tryz.func175, Tryz.ntmps175
    go_wp2
    go_ret
    exact ⟨by first | rfl | go_num, rfl⟩
  by_cases k5 : op = 5
  · subst k5
    have hR : R = (a + b) % S := by rw [← HR.out]; rfl
    subst hR
    have hm : Int.tmod ((a : Int) + (b : Int)) (S : Int) = (((a + b) % S : Nat) : Int) := by rw [Int.tmod_eq_emod_of_nonneg (by omega)]; rfl
    go_enter Tryz.func175, Tryz.ntmps175
    go_wp2
    go_ret
    exact ⟨by first | rfl | go_num, rfl⟩
  by_cases k6 : op = 6
  · subst k6
    have hR : R = (a + S - b) % S := by rw [← HR.out]; rfl
    subst hR
    have hm : Int.tmod ((a : Int) - (b : Int) + (S : Int)) (S : Int) = (((a + S - b) % S : Nat) : Int) := by rw [Int.tmod_eq_emod_of_nonneg (by omega), show ((a : Int) - (b : Int) + (S : Int)) = ((a + S - b : Nat) : Int) by omega]; rfl
    go_enter Tryz.func175, Tryz.ntmps175
    go_wp2
    go_ret
    exact ⟨by first | rfl | go_num, rfl⟩
  by_cases k7 : op = 7
  · subst k7
    have hR : R = a * b % S := by rw [← HR.out]; rfl
    subst hR
    have hm : Int.tmod ((a : Int) * (b : Int)) (S : Int) = ((a * b % S : Nat) : Int) := by rw [Int.tmod_eq_emod_of_nonneg (Int.mul_nonneg (by omega) (by omega))]; rfl
    have hlo : 0 ≤ (a : Int) * (b : Int) := Int.mul_nonneg (by omega) (by omega)
    have hhi : (a : Int) * (b : Int) ≤ 65025 := Int.le_trans (Int.ofNat_le.2 hmul) (by decide)
    clear hmul
    go_enter Tryz.func175, Tryz.ntmps175
    go_wp2
    go_ret
    exact ⟨by first | rfl | go_num, rfl⟩
  by_cases k8 : op = 8
  · subst k8
    by_cases h0 : b = 0
    · subst h0
      have hR : R = 0 := by rw [← HR.out]; exact Nat.div_zero a
      subst hR
      go_enter Tryz.func175, Tryz.ntmps175
      go_wp2
      go_ret
      exact ⟨rfl, rfl⟩
    · obtain ⟨q, HQ⟩ : ∃ q, Hid (a / b = q) := ⟨_, rfl⟩
      have hR : R = q := by rw [← HR.out]; exact HQ.out
      have hbi : ¬ (b : Int) = 0 := by omega
      have hm : Int.tdiv (a : Int) (b : Int) = (q : Int) := by rw [Int.tdiv_eq_ediv_of_nonneg (Int.natCast_nonneg _), ← HQ.out]; rfl
      have hle : q ≤ a := by rw [← HQ.out]; exact Nat.div_le_self _ _
      subst hR
      clear hmul
      go_enter Tryz.func175, Tryz.ntmps175
      go_wp2
      go_ret
      exact ⟨by first | rfl | go_num, rfl⟩
  by_cases k9 : op = 9
  · subst k9
    by_cases h0 : b = 0
    · subst h0
      have hR : R = 0 := by rw [← HR.out]; rfl
      subst hR
      go_enter Tryz.func175, Tryz.ntmps175
      go_wp2
      go_ret
      exact ⟨rfl, rfl⟩
    · obtain ⟨q, HQ⟩ : ∃ q, Hid (a % b = q) := ⟨_, rfl⟩
      have hR : R = q := by rw [← HR.out]; exact (if_neg h0).trans HQ.out
      have hbi : ¬ (b : Int) = 0 := by omega
      have hm : Int.tmod (a : Int) (b : Int) = (q : Int) := by rw [Int.tmod_eq_emod_of_nonneg (Int.natCast_nonneg _), ← HQ.out]; rfl
      have hle : q ≤ a := by rw [← HQ.out]; exact Nat.mod_le _ _
      subst hR
      clear hmul
      go_enter Tryz.func175, Tryz.ntmps175
      go_wp2
      go_ret
      exact ⟨by first | rfl | go_num, rfl⟩
  by_cases k10 : op = 10
  · subst k10
    have hR : R = bitF 0 a b := by rw [← HR.out]; rfl
    subst hR
    go_enter Tryz.func175, Tryz.ntmps175
    go_wp2_with fail
    refine (HBT.out 0 (by omega) _).mono ?_
    rintro e w1 ⟨rfl, rfl⟩
    go_wp2
    go_ret
    exact ⟨by first | rfl | go_num, rfl⟩
  by_cases k11 : op = 11
  · subst k11
    have hR : R = bitF 1 a b := by rw [← HR.out]; rfl
    subst hR
    go_enter Tryz.func175, Tryz.ntmps175
    go_wp2_with fail
    refine (HBT.out 1 (by omega) _).mono ?_
    rintro e w1 ⟨rfl, rfl⟩
    go_wp2
    go_ret
    exact ⟨by first | rfl | go_num, rfl⟩
  by_cases k12 : op = 12
  · subst k12
    have hR : R = bitF 2 a b := by rw [← HR.out]; rfl
    subst hR
    go_enter Tryz.func175, Tryz.ntmps175
    go_wp2_with fail
    refine (HBT.out 2 (by omega) _).mono ?_
    rintro e w1 ⟨rfl, rfl⟩
    go_wp2
    go_ret
    exact ⟨by first | rfl | go_num, rfl⟩
  by_cases k13 : op = 13
  · subst k13
    have hR : R = shiftF true S a b := by rw [← HR.out]; rfl
    subst hR
    go_enter Tryz.func175, Tryz.ntmps175
    go_wp2_with fail
    refine (l5Shift_any true S a b _ hS ha (by omega)).mono ?_
    rintro e w1 ⟨rfl, rfl⟩
    go_wp2
    go_ret
    exact ⟨by first | rfl | go_num, rfl⟩
  by_cases k14 : op = 14
  · subst k14
    have hR : R = shiftF false S a b := by rw [← HR.out]; rfl
    subst hR
    go_enter Tryz.func175, Tryz.ntmps175
    go_wp2_with fail
    refine (l5Shift_any false S a b _ hS ha (by omega)).mono ?_
    rintro e w1 ⟨rfl, rfl⟩
    go_wp2
    go_ret
    exact ⟨by first | rfl | go_num, rfl⟩
  by_cases k15 : op = 15
  · subst k15
    by_cases hab : a = b
    · have hd : ((a : Int) == (b : Int)) = true := by simp; omega
      have hR : R = bi true := by rw [← HR.out]; exact if_pos hab
      subst hR
      clear hab
      go_enter Tryz.func175, Tryz.ntmps175
      go_wp2_with fail
      refine (l5Bit_any _ _).mono ?_
      rintro e w1 ⟨rfl, rfl⟩
      go_wp2
      go_ret
      exact ⟨rfl, rfl⟩
    · have hd : ((a : Int) == (b : Int)) = false := by simp; omega
      have hR : R = bi false := by rw [← HR.out]; exact if_neg hab
      subst hR
      clear hab
      go_enter Tryz.func175, Tryz.ntmps175
      go_wp2_with fail
      refine (l5Bit_any _ _).mono ?_
      rintro e w1 ⟨rfl, rfl⟩
      go_wp2
      go_ret
      exact ⟨rfl, rfl⟩
  have k16 : op = 16 := by omega
  subst k16
  have hR : R = bi (decide (a < b)) := by
    rw [← HR.out]
    show (if a < b then 1 else 0) = _
    unfold bi
    simp
  subst hR
  go_enter Tryz.func175, Tryz.ntmps175
  go_wp2_with fail
  refine (l5Bit_any _ _).mono ?_
  rintro e w1 ⟨rfl, rfl⟩
  go_wp2
  go_ret
  exact ⟨rfl, rfl⟩
end Go.Proofs.YtmooecbdpfhnlaaGreat
