/- Words for Outcomes (three cells: a slice of numbers, two numbers); the laws' own helpers on them (toOutcome, eqOutcome, szOutcome); what an argument that is an Outcome is. -/
import Derived.Test.YtdippnnhibgjoaaProgLaw
import Derived.Test.YtdippnnhibgjoaaEnvLaw
namespace Go.Proofs.Ytdippnnhibgjoaa
open Go.RowKit Go.ChangeShapes Go.WideShapes

/-- Its three cells. -/
structure OcR where
  vals : Sl
  en : Int
  co : Int
def ocV (r : OcR) : Value := .agg #[slV r.vals, .int .i64 r.en, .int .i64 r.co]
def ArgOc (w : World) (r : OcR) : Prop := ArgInts w r.vals.1 r.vals.2.1
theorem ArgOc.below {w w' : World} {r : OcR} (h : ArgOc w r) (hb : Below w.heap.size w w') : ArgOc w' r := ArgInts.below h hb
def MadeOc (w : World) (r : OcR) (zs : List Int) (e : Ending) (w' : World) : Prop := ∃ v : Sl, e = .returned (ocV ⟨v, r.en, r.co⟩) ∧ Own w' w.heap.size v.1 v.2.1 v.2.2 zs ∧ Below w.heap.size w w'
section
variable {H : Type} {enc : TypeId × Value → H} {w : World} {base : Nat} {spare : Nat → Bool} {held : Bool}
theorem array3 {α : Type} {cs : Array α} (h : cs.size = 3) : ∃ c0 c1 c2, cs = #[c0, c1, c2] := by
  obtain ⟨l⟩ := cs
  match l, h with
  | [c0, c1, c2], _ => exact ⟨c0, c1, c2, rfl⟩
set_option maxRecDepth 100000 in
theorem argOc_of {rc : Reach} {b0 : Nat} {v : Value} {d : DataW H} {p : List MemPlace}
    (hv : Value.okWide Try.prog w rc b0 67 v) (h : DataW.Trod enc Try.prog w base spare held 67 v d p) : ∃ r : OcR, v = ocV r ∧ ArgOc w r := by
  obtain ⟨cs, rfl, hsz⟩ := okWide_struct Try.underlying67 hv
  obtain ⟨v0, v1, v2, rfl⟩ := array3 (hsz.trans (by kernel_rfl))
  obtain ⟨fuel, hf⟩ := h
  obtain ⟨_, n, hn⟩ := trod_cells Try.underlying67 (by kernel_rfl) (by kernel_rfl) hf
  obtain ⟨u0, y0, c0, d0⟩ := hn 0 _ rfl
  obtain ⟨u1, y1, c1, d1⟩ := hn 1 _ rfl
  obtain ⟨u2, y2, c2, d2⟩ := hn 2 _ rfl
  simp [Value.cells] at c0 c1 c2
  subst c0 c1 c2
  obtain ⟨a1, l1, k1, rfl, t1⟩ := argInts_cell Try.underlying28 (by kernel_rfl) d0
  obtain ⟨n1, e1, _, _⟩ := DataW.trod_int Try.underlying2 d1
  obtain ⟨n2, e2, _, _⟩ := DataW.trod_int Try.underlying2 d2
  injection e1 with e1
  injection e2 with e2
  subst e1 e2
  exact ⟨⟨(a1, l1, k1), n1, n2⟩, rfl, t1⟩
end
def SzOc (w : World) (left : Nat) (r : OcR) (e : Ending) (w' : World) : Prop :=
  Below w.heap.size w w' ∧ (e = .returned (.int .i64 (-1)) ∨ ∃ l : Nat, l ≤ left ∧ e = .returned (.int .i64 (l : Int)) ∧ ∃ zs, Ints w r.vals.1 r.vals.2.1 zs)
set_option maxHeartbeats 800000 in
theorem szOutcome_any (r : OcR) (left : Nat) (w : World) (h : ArgOc w r) (hl : left ≤ 1048576) :
    Calls Try.prog 30 #[ocV r, .int .i64 (left : Int)] w (SzOc w left r) := by
  obtain ⟨⟨a1, n1, c1⟩, en, co⟩ := r
  have h1 : ArgInts w a1 n1 := h
  clear h
  have HB : Below w.heap.size w (w.alloc (.cells #[.slice a1 n1 c1, .int .i64 en, .int .i64 co] 67)) := (Below.refl _ _).alloc (Nat.le_refl _) _
  show Calls Try.prog 30 #[.agg #[.slice a1 n1 c1, .int .i64 en, .int .i64 co], .int .i64 (left : Int)] w _
  go_enter Try.func30, Try.ntmps30
  go_wp2_with fail
  by_cases e1 : n1 ≤ left
  case neg =>
    refine (szInt64S_over _ _ _ _ _ (by omega) h1.1).mono ?_
    rintro e w1 ⟨rfl, rfl⟩
    go_wp2
    go_ret
    exact ⟨HB, .inl rfl⟩
  refine (szInt64S_fits _ _ _ _ _ e1 hl).mono ?_
  rintro e w1 ⟨rfl, rfl⟩
  obtain ⟨L1, HL1⟩ : ∃ L1 : Nat, Hid (left - n1 = L1) := ⟨_, rfl⟩
  rw [HL1.out]
  have hl1 : L1 ≤ 1048576 := by have := HL1.out; omega
  have HZ := Lib.hid (h1.2 (by omega))
  clear h1
  go_wp2
  go_ret
  exact ⟨HB, .inr ⟨L1, by have := HL1.out; omega, rfl, HZ.out⟩⟩
structure OBox (w wi : World) (c0 c1 c2 : List Value) : Prop where
  arg : Blk wi w.heap.size 67 c0
  res : Blk wi (w.heap.size + 1) 44 c1
  out : Blk wi (w.heap.size + 2) 44 c2
  bel : Below w.heap.size w wi
theorem OBox.below {w wi wj : World} {c0 c1 c2 : List Value} (h : OBox w wi c0 c1 c2) (hb : Below wi.heap.size wi wj) : OBox w wj c0 c1 c2 :=
  ⟨h.arg.below hb h.arg.lt, h.res.below hb h.res.lt, h.out.below hb h.out.lt, h.bel.trans (hb.mono h.bel.size)⟩
theorem obox_new (w : World) (c0 c1 c2 : List Value) : OBox w (((w.alloc (.cells c0.toArray 67)).alloc (.cells c1.toArray 44)).alloc (.cells c2.toArray 44)) c0 c1 c2 :=
  ⟨((Blk.new w _ _).alloc _).alloc _, (by simpa using Blk.new (w.alloc _) 44 c1 : Blk _ _ _ _).alloc _, by simpa using Blk.new ((w.alloc _).alloc _) 44 c2, (((Below.refl _ _).alloc (Nat.le_refl _) _).alloc (by simp) _).alloc (by simp; omega) _⟩
set_option maxHeartbeats 1600000 in
theorem toOutcome_any (r : OcR) (zs : List Int) (w : World) (h : Ints w r.vals.1 r.vals.2.1 zs) : Calls Try.prog 32 #[ocV r] w (MadeOc w r zs) := by
  obtain ⟨⟨a1, n1, c1⟩, en, co⟩ := r
  simp only [] at h
  show Calls Try.prog 32 #[.agg #[.slice a1 n1 c1, .int .i64 en, .int .i64 co]] w _
  obtain ⟨wa, HW⟩ : ∃ wa, Hid (wa = (((w.alloc (.cells #[.slice a1 n1 c1, .int .i64 en, .int .i64 co] 67)).alloc (.cells #[.slice none 0 0, .int .i64 0, .int .i64 0] 44)).alloc (.cells #[.slice none 0 0, .int .i64 0, .int .i64 0] 44))) := ⟨_, rfl⟩
  have BX : OBox w wa [.slice a1 n1 c1, .int .i64 en, .int .i64 co] [.slice none 0 0, .int .i64 0, .int .i64 0] [.slice none 0 0, .int .i64 0, .int .i64 0] := by rw [HW.out]; exact obox_new w _ _ _
  go_enter Try.func32, Try.ntmps32
  go_wp2_with fail
  rw [← HW.out]
  refine (toInt64S_any _ _ _ _ _ (h.below BX.bel)).mono ?_
  rintro e w1 ⟨p1, q1, d1, rfl, ho1, hb1⟩
  have B1 := BX.below hb1
  have l1 := BX.out.lt
  clear HW BX hb1 h
  have b1 := B1.arg.cell (j := 1) rfl
  have b2 := B1.arg.cell (j := 2) rfl
  have a0 := B1.res.cell (j := 0) rfl
  have a1 := B1.res.cell (j := 1) rfl
  have a2 := B1.res.cell (j := 2) rfl
  have z0 := B1.res.frozen 0
  have z1 := B1.res.frozen 1
  have z2 := B1.res.frozen 2
  have e0 := B1.out.cell (j := 0) rfl
  have e1 := B1.out.cell (j := 1) rfl
  have e2 := B1.out.cell (j := 2) rfl
  have y0 := B1.out.frozen 0
  have y1 := B1.out.frozen 1
  have y2 := B1.out.frozen 2
  have HB := Lib.hid B1.bel
  clear B1
  go_wp2
  refine bodyPost_ret (v := .agg #[.slice p1 q1 d1, .int .i64 en, .int .i64 co]) (by simp [results, Try.results32, go_sem, a0, a1, a2]) rfl ?_
  have g1 : w.heap.size + 1 < wa.heap.size := by omega
  exact ⟨(p1, q1, d1), rfl, ((((((ho1.set l1 _).set l1 _).set l1 _).set g1 _).set g1 _).set g1 _).base (by omega), below_set (below_set (below_set (below_set (below_set (below_set HB.out (by omega) _) (by omega) _) (by omega) _) (by omega) _) (by omega) _) (by omega) _⟩
/-- The two blocks of a law over two Outcomes. -/
structure FBox (w wi : World) (c0 c1 : List Value) : Prop where
  one : Blk wi w.heap.size 67 c0
  two : Blk wi (w.heap.size + 1) 67 c1
  bel : Below w.heap.size w wi
theorem FBox.below {w wi wj : World} {c0 c1 : List Value} (h : FBox w wi c0 c1) (hb : Below wi.heap.size wi wj) : FBox w wj c0 c1 :=
  ⟨h.one.below hb h.one.lt, h.two.below hb h.two.lt, h.bel.trans (hb.mono h.bel.size)⟩
theorem fbox_new (w : World) (c0 c1 : List Value) : FBox w ((w.alloc (.cells c0.toArray 67)).alloc (.cells c1.toArray 67)) c0 c1 :=
  ⟨(Blk.new w _ _).alloc _, by simpa using Blk.new (w.alloc _) 67 c1, ((Below.refl _ _).alloc (Nat.le_refl _) _).alloc (by simp) _⟩
/-- Two blocks of Outcomes. -/
structure DBox (w wi : World) (c0 c1 : List Value) : Prop where
  one : Blk wi w.heap.size 44 c0
  two : Blk wi (w.heap.size + 1) 44 c1
  bel : Below w.heap.size w wi
theorem DBox.below {w wi wj : World} {c0 c1 : List Value} (h : DBox w wi c0 c1) (hb : Below wi.heap.size wi wj) : DBox w wj c0 c1 :=
  ⟨h.one.below hb h.one.lt, h.two.below hb h.two.lt, h.bel.trans (hb.mono h.bel.size)⟩
theorem dbox_new (w : World) (c0 c1 : List Value) : DBox w ((w.alloc (.cells c0.toArray 44)).alloc (.cells c1.toArray 44)) c0 c1 :=
  ⟨(Blk.new w _ _).alloc _, by simpa using Blk.new (w.alloc _) 44 c1, ((Below.refl _ _).alloc (Nat.le_refl _) _).alloc (by simp) _⟩
/-- eqOutcome of what reads alike. -/
theorem eqOutcome_same (v v' : Sl) (en co : Int) (zs : List Int) (w : World) (h : Ints w v.1 v.2.1 zs) (h' : Ints w v'.1 v'.2.1 zs) :
    Calls Try.prog 33 #[ocV ⟨v, en, co⟩, ocV ⟨v', en, co⟩] w fun e w' => e = .returned (.bool true) ∧ Below w.heap.size w w' := by
  obtain ⟨a1, n1, c1⟩ := v
  obtain ⟨b1, m1, d1⟩ := v'
  simp only [] at h h'
  have hne1 : (en != en) = false := by simp
  have hne2 : (co != co) = false := by simp
  show Calls Try.prog 33 #[.agg #[.slice a1 n1 c1, .int .i64 en, .int .i64 co], .agg #[.slice b1 m1 d1, .int .i64 en, .int .i64 co]] w _
  obtain ⟨wa, HW⟩ : ∃ wa, Hid (wa = ((w.alloc (.cells #[.slice a1 n1 c1, .int .i64 en, .int .i64 co] 44)).alloc (.cells #[.slice b1 m1 d1, .int .i64 en, .int .i64 co] 44))) := ⟨_, rfl⟩
  have BX : DBox w wa [.slice a1 n1 c1, .int .i64 en, .int .i64 co] [.slice b1 m1 d1, .int .i64 en, .int .i64 co] := by rw [HW.out]; exact dbox_new w _ _
  go_enter Try.func33, Try.ntmps33
  go_wp2_with fail
  rw [← HW.out]
  refine (eqInt64S_any _ _ _ _ _ _ _ _ _ (h.below BX.bel) (h'.below BX.bel)).mono ?_
  rintro e w1 ⟨rfl, j, rfl⟩
  have hbj : Below wa.heap.size wa (wa.drewN j) := below_dn (Below.refl _ _) j
  obtain ⟨w1, HW1⟩ : ∃ w1, Hid (wa.drewN j = w1) := ⟨_, rfl⟩
  rw [HW1.out] at hbj ⊢
  have B1 := BX.below hbj
  rw [decide_eq_true rfl]
  clear BX HW HW1 hbj h h'
  have f1 := B1.one.cell (j := 1) rfl
  have f2 := B1.one.cell (j := 2) rfl
  have g1 := B1.two.cell (j := 1) rfl
  have g2 := B1.two.cell (j := 2) rfl
  have HB := Lib.hid B1.bel
  clear B1
  go_wp2
  go_ret
  exact ⟨rfl, HB.out⟩
/-- What LikeOutcomes answers. -/
def likeB (zs ys : List Int) (e c e' c' : Int) : Bool := decide (zs = ys) && (decide (e = e') && decide (c = c'))
set_option maxHeartbeats 400000 in
theorem slicesEqual_any (a b : Option Addr) (n m c d : Nat) (xs ys : List Int) (w : World) (hx : Ints w a n xs) (hy : Ints w b m ys) :
    Calls Try.prog 42 #[.slice a n c, .slice b m d] w fun e w' => e = .returned (.bool (decide (xs = ys))) ∧ Below w.heap.size w w' := by
  have HL := Lib.hid hx.1
  have HM := Lib.hid hy.1
  have hbd := hx.2.1
  have hbe := hy.2.1
  by_cases hnm : n = m
  · subst hnm
    have hne0 : ((n : Int) != (n : Int)) = false := by simp
    go_enter Try.func42, Try.ntmps42
    go_wp2
    go_loopw [13] (fun i wr => ∃ k : Nat, k ≤ n ∧ i = .int .i64 k ∧ EqTo xs ys k ∧ ∃ j, wr = w.drewN j) (fun i _ => n - (intOf i).toNat)
    case atStart => exact ⟨0, Nat.zero_le _, rfl, EqTo.zero _ _, 0, rfl⟩
    case round =>
      obtain ⟨k, hk, rfl, hg, j, rfl⟩ := hrel
      by_cases hlt : k < n
      · obtain ⟨b1, o1, x, rfl, hb1, hxk, hin1, hc1⟩ := hx.at_ hlt
        obtain ⟨b2, o2, y, rfl, hb2, hyk, hin2, hc2⟩ := hy.at_ hlt
        have hd1 : (w.drewN j).cell? ⟨b1, o1 + k, none⟩ = some (.int .i64 x) := hc1
        have hd2 : (w.drewN j).cell? ⟨b2, o2 + k, none⟩ = some (.int .i64 y) := hc2
        by_cases e : x = y
        · subst e
          have hne : (x != x) = false := by simp
          go_wp2
          go_quiet (fail)
          go_wp2
          go_roundw
          case rel => exact ⟨k + 1, by omega, by go_num, hg.succ hxk hyk rfl, _, rfl⟩
          case measure => simp [intOf]; omega
        · have hne : (x != y) = true := by simpa using e
          go_wp2
          go_quiet (fail)
          go_wp2
          go_ret
          exact ⟨ret_bool (decide_eq_false (fun h => e (by rw [hxk.out, hyk.out, h]))).symm, below_dn (below_dn (Below.refl _ _) _) _⟩
      · obtain rfl : n = k := by omega
        go_wp2
        go_ret
        exact ⟨ret_bool (decide_eq_true (eqTo_all (HL.out.trans HM.out.symm) (by rw [HL.out]; exact hg))).symm, below_dn (Below.refl _ _) _⟩
  · have hne : ((n : Int) != (m : Int)) = true := by simp; omega
    go_enter Try.func42, Try.ntmps42
    go_wp2
    go_ret
    exact ⟨ret_bool (decide_eq_false (fun h => hnm (by rw [← HL.out, ← HM.out, h]))).symm, Below.refl _ _⟩
set_option maxHeartbeats 800000 in
theorem implLike_any (v v' : Sl) (en co en' co' : Int) (zs ys : List Int) (w : World) (h : Ints w v.1 v.2.1 zs) (h' : Ints w v'.1 v'.2.1 ys) :
    Calls Try.prog 17 #[ocV ⟨v, en, co⟩, ocV ⟨v', en', co'⟩] w fun e w' => e = .returned (.bool (likeB zs ys en co en' co')) ∧ Below w.heap.size w w' := by
  obtain ⟨R, HR⟩ : ∃ R, Hid (likeB zs ys en co en' co' = R) := ⟨_, rfl⟩
  rw [HR.out]
  obtain ⟨a1, n1, c1⟩ := v
  obtain ⟨b1, m1, d1⟩ := v'
  simp only [] at h h'
  show Calls Try.prog 17 #[.agg #[.slice a1 n1 c1, .int .i64 en, .int .i64 co], .agg #[.slice b1 m1 d1, .int .i64 en', .int .i64 co']] w _
  obtain ⟨wa, HW⟩ : ∃ wa, Hid (wa = ((w.alloc (.cells #[.slice a1 n1 c1, .int .i64 en, .int .i64 co] 44)).alloc (.cells #[.slice b1 m1 d1, .int .i64 en', .int .i64 co'] 44))) := ⟨_, rfl⟩
  have BX : DBox w wa [.slice a1 n1 c1, .int .i64 en, .int .i64 co] [.slice b1 m1 d1, .int .i64 en', .int .i64 co'] := by rw [HW.out]; exact dbox_new w _ _
  go_enter Try.func17, Try.ntmps17
  go_wp2_with fail
  rw [← HW.out]
  refine (slicesEqual_any _ _ _ _ _ _ _ _ _ (h.below BX.bel) (h'.below BX.bel)).mono ?_
  rintro e w1 ⟨rfl, hbj⟩
  have B1 := BX.below hbj
  clear BX HW hbj h h'
  have f1 := B1.one.cell (j := 1) rfl
  have f2 := B1.one.cell (j := 2) rfl
  have g1 := B1.two.cell (j := 1) rfl
  have g2 := B1.two.cell (j := 2) rfl
  have HB := Lib.hid B1.bel
  clear B1
  cases hd : decide (zs = ys) with
  | false =>
    have HX : Hid (false = R) := Lib.hid (by rw [← HR.out, likeB, hd]; rfl)
    clear hd HR
    go_wp2
    go_ret
    exact ⟨ret_bool HX.out, HB.out⟩
  | true =>
    by_cases he : en = en'
    · have k1 : (en == en') = true := by simpa using he
      by_cases hc : co = co'
      · have k2 : (co == co') = true := by simpa using hc
        have HX : Hid (true = R) := Lib.hid (by rw [← HR.out, likeB, hd, decide_eq_true he, decide_eq_true hc]; rfl)
        clear he hc hd HR
        go_wp2
        go_ret
        exact ⟨ret_bool HX.out, HB.out⟩
      · have k2 : (co == co') = false := by simpa using hc
        have HX : Hid (false = R) := Lib.hid (by rw [← HR.out, likeB, hd, decide_eq_true he, decide_eq_false hc]; rfl)
        clear he hc hd HR
        go_wp2
        go_ret
        exact ⟨ret_bool HX.out, HB.out⟩
    · have k1 : (en == en') = false := by simpa using he
      have HX : Hid (false = R) := Lib.hid (by rw [← HR.out, likeB, hd, decide_eq_false he]; rfl)
      clear he hd HR
      go_wp2
      go_ret
      exact ⟨ret_bool HX.out, HB.out⟩
set_option maxHeartbeats 1600000 in
theorem specLike_any (v v' : Sl) (en co en' co' : Int) (zs ys : List Int) (w : World) (h : Ints w v.1 v.2.1 zs) (h' : Ints w v'.1 v'.2.1 ys) :
    Calls Try.prog 31 #[ocV ⟨v, en, co⟩, ocV ⟨v', en', co'⟩] w fun e w' => e = .returned (.bool (likeB zs ys en co en' co')) ∧ Below w.heap.size w w' := by
  obtain ⟨R, HR⟩ : ∃ R, Hid (likeB zs ys en co en' co' = R) := ⟨_, rfl⟩
  rw [HR.out]
  obtain ⟨a1, n, c1⟩ := v
  obtain ⟨b1, m, d1⟩ := v'
  simp only [] at h h'
  have HL := Lib.hid h.1
  have HM := Lib.hid h'.1
  have hbd := h.2.1
  have hbe := h'.2.1
  show Calls Try.prog 31 #[.agg #[.slice a1 n c1, .int .i64 en, .int .i64 co], .agg #[.slice b1 m d1, .int .i64 en', .int .i64 co']] w _
  obtain ⟨wa, HW⟩ : ∃ wa, Hid (wa = ((w.alloc (.cells #[.slice a1 n c1, .int .i64 en, .int .i64 co] 44)).alloc (.cells #[.slice b1 m d1, .int .i64 en', .int .i64 co'] 44))) := ⟨_, rfl⟩
  have BX : DBox w wa [.slice a1 n c1, .int .i64 en, .int .i64 co] [.slice b1 m d1, .int .i64 en', .int .i64 co'] := by rw [HW.out]; exact dbox_new w _ _
  by_cases hnm : n = m
  case neg =>
    have hne : ((n : Int) != (m : Int)) = true := by simp; omega
    have HX : Hid (false = R) := Lib.hid (by rw [← HR.out, likeB, decide_eq_false (fun e => hnm (by rw [← HL.out, ← HM.out, e]))]; rfl)
    have HB := Lib.hid BX.bel
    clear BX HR hnm h h'
    go_enter Try.func31, Try.ntmps31
    go_wp2
    go_ret
    rw [← HW.out]
    exact ⟨ret_bool HX.out, HB.out⟩
  subst hnm
  have hne0 : ((n : Int) != (n : Int)) = false := by simp
  by_cases he : en = en'
  case neg =>
    have k1 : (en != en') = true := by simpa using he
    have HX : Hid (false = R) := Lib.hid (by rw [← HR.out, likeB, decide_eq_false he]; simp)
    have HB := Lib.hid BX.bel
    clear BX HR he h h'
    go_enter Try.func31, Try.ntmps31
    go_wp2
    go_ret
    rw [← HW.out]
    exact ⟨ret_bool HX.out, HB.out⟩
  have k1 : (en != en') = false := by simpa using he
  by_cases hc : co = co'
  case neg =>
    have k2 : (co != co') = true := by simpa using hc
    have HX : Hid (false = R) := Lib.hid (by rw [← HR.out, likeB, decide_eq_false hc]; simp)
    have HB := Lib.hid BX.bel
    clear BX HR he hc h h'
    go_enter Try.func31, Try.ntmps31
    go_wp2
    go_ret
    rw [← HW.out]
    exact ⟨ret_bool HX.out, HB.out⟩
  have k2 : (co != co') = false := by simpa using hc
  have HX : Hid (decide (zs = ys) = R) := Lib.hid (by rw [← HR.out, likeB, decide_eq_true he, decide_eq_true hc]; simp)
  have HB := Lib.hid BX.bel
  have f0 : ∀ j, (wa.drewN j).cell? ⟨w.heap.size, 0, none⟩ = some (.slice a1 n c1) := fun _ => BX.one.cell (j := 0) rfl
  have f1 : ∀ j, (wa.drewN j).cell? ⟨w.heap.size + 1, 0, none⟩ = some (.slice b1 n d1) := fun _ => BX.two.cell (j := 0) rfl
  have h := h.below BX.bel
  have h' := h'.below BX.bel
  have HF0 := Lib.hid f0
  have HF1 := Lib.hid f1
  clear BX HR he hc f0 f1
  go_enter Try.func31, Try.ntmps31
  go_wp2_with fail
  rw [← HW.out]
  go_loopw [5] (fun i wr => ∃ k : Nat, k ≤ n ∧ i = .int .i64 k ∧ EqTo zs ys k ∧ ∃ j, wr = wa.drewN j) (fun i _ => n - (intOf i).toNat)
  case atStart => exact ⟨0, Nat.zero_le _, rfl, EqTo.zero _ _, 0, rfl⟩
  case round =>
    obtain ⟨k, hk, rfl, hg, j, rfl⟩ := hrel
    have f0 := HF0.out j
    have f1 := HF1.out j
    have p0 : wa.cell? ⟨w.heap.size, 0, none⟩ = some (.slice a1 n c1) := f0
    have p1 : wa.cell? ⟨w.heap.size + 1, 0, none⟩ = some (.slice b1 n d1) := f1
    by_cases hlt : k < n
    · obtain ⟨g1, o1, x, rfl, hb1, hxk, hin1, hc1⟩ := h.at_ hlt
      obtain ⟨g2, o2, y, rfl, hb2, hyk, hin2, hc2⟩ := h'.at_ hlt
      have hd1 : (wa.drewN j).cell? ⟨g1, o1 + k, none⟩ = some (.int .i64 x) := hc1
      have hd2 : (wa.drewN j).cell? ⟨g2, o2 + k, none⟩ = some (.int .i64 y) := hc2
      have f0' : ∀ n', ((wa.drewN j).drewN n').cell? ⟨w.heap.size, 0, none⟩ = some (.slice (some ⟨g1, o1, none⟩) n c1) := fun _ => f0
      have f1' : ∀ n', ((wa.drewN j).drewN n').cell? ⟨w.heap.size + 1, 0, none⟩ = some (.slice (some ⟨g2, o2, none⟩) n d1) := fun _ => f1
      have hd1' : ∀ n', ((wa.drewN j).drewN n').cell? ⟨g1, o1 + k, none⟩ = some (.int .i64 x) := fun _ => hc1
      have hd2' : ∀ n', ((wa.drewN j).drewN n').cell? ⟨g2, o2 + k, none⟩ = some (.int .i64 y) := fun _ => hc2
      by_cases e : x = y
      · subst e
        have hne : (x != x) = false := by simp
        go_wp2
        go_quiet (fail)
        go_wp2
        go_roundw
        case rel => exact ⟨k + 1, by omega, by go_num, hg.succ hxk hyk rfl, _, rfl⟩
        case measure => simp [intOf]; omega
      · have hne : (x != y) = true := by simpa using e
        go_wp2
        go_quiet (fail)
        go_wp2
        go_ret
        exact ⟨ret_bool (by rw [← HX.out]; exact (decide_eq_false (fun h => e (by rw [hxk.out, hyk.out, h]))).symm), below_dn (below_dn HB.out _) _⟩
    · obtain rfl : n = k := by omega
      go_wp2
      go_ret
      exact ⟨ret_bool (by rw [← HX.out]; exact (decide_eq_true (eqTo_all (HL.out.trans HM.out.symm) (by rw [HL.out]; exact hg))).symm), below_dn HB.out _⟩
end Go.Proofs.Ytdippnnhibgjoaa
