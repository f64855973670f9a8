/- For every two Outcomes, the program's LikeOutcomes answers as the model's, and leaves its arguments as they were. Conditions: none beyond the given row. (The frame round the walk is the guide's own shell, by program.) -/
import Derived.Test.YtdippnnhibgjoaaRows
import Derived.Test.YtdippnnhibgjoaaOutLaw
import Derived.WalkKit
import Derived.ProofKit
import Derived.OpenShut
import Derived.ShutString
import Derived.ChangeOld
import Derived.Below
import Derived.Carry
namespace Go.Proofs.Ytdippnnhibgjoaa.fnExactLikeOutcomes
open Go.ChangeShapes Go.WideShapes Go.ChangeAt Go.RowKit
set_option linter.unusedVariables false

theorem own : ownKnob Try.prog.godebug = none := by kernel_rfl
theorem laidOut : laidOutB Try.prog = true := by kernel_rfl

/-! ### STEP 1: THE WALK -/
set_option maxRecDepth 20000 in
set_option maxHeartbeats 6400000 in
theorem walk (r0 : OcR) (r1 : OcR) (w : World) (w0 : ArgOc w r0) (w1 : ArgOc w r1) :
    Calls Try.prog 5 #[ocV r0, ocV r1] w fun e w' => e = .returned (.bool true) ∧ Below w.heap.size w w' := by
  have HA0 := Lib.hid w0
  have HA1 := Lib.hid w1
  clear w0 w1
  obtain ⟨⟨a1, n1, c1⟩, e1, d1⟩ := r0
  obtain ⟨⟨a2, n2, c2⟩, e2, d2⟩ := r1
  have HS : Hid (∀ (l : Nat) w', l ≤ 1048576 → Below w.heap.size w w' → Calls Try.prog 30 #[.agg #[.slice a1 n1 c1, .int .i64 e1, .int .i64 d1], .int .i64 (l : Int)] w' (SzOc w' l ⟨(a1, n1, c1), e1, d1⟩)) := Lib.hid (fun l w' hl hb => szOutcome_any ⟨(a1, n1, c1), e1, d1⟩ _ _ (HA0.out.below hb) hl)
  have HS2 : Hid (∀ (l : Nat) w', l ≤ 1048576 → Below w.heap.size w w' → Calls Try.prog 30 #[.agg #[.slice a2 n2 c2, .int .i64 e2, .int .i64 d2], .int .i64 (l : Int)] w' (SzOc w' l ⟨(a2, n2, c2), e2, d2⟩)) := Lib.hid (fun l w' hl hb => szOutcome_any ⟨(a2, n2, c2), e2, d2⟩ _ _ (HA1.out.below hb) hl)
  clear HA0 HA1
  show Calls Try.prog 5 #[.agg #[.slice a1 n1 c1, .int .i64 e1, .int .i64 d1], .agg #[.slice a2 n2 c2, .int .i64 e2, .int .i64 d2]] w _
  obtain ⟨wa, HW⟩ : ∃ wa, Hid (wa = ((w.alloc (.cells #[.slice a1 n1 c1, .int .i64 e1, .int .i64 d1] 67)).alloc (.cells #[.slice a2 n2 c2, .int .i64 e2, .int .i64 d2] 67))) := ⟨_, rfl⟩
  have BX : FBox w wa [.slice a1 n1 c1, .int .i64 e1, .int .i64 d1] [.slice a2 n2 c2, .int .i64 e2, .int .i64 d2] := by rw [HW.out]; exact fbox_new w _ _
  go_enter Try.func5, Try.ntmps5
  go_wp2_with fail
  rw [← HW.out]
  refine (HS.out 1048576 _ (Nat.le_refl _) BX.bel).mono ?_
  rintro e u1 ⟨hb1, he⟩
  rcases he with rfl | ⟨l1, hl1, rfl, zs, hz⟩
  · have B := BX.below hb1
    go_wp2_with fail
    go_ret
    exact ⟨rfl, B.bel⟩
  have hvv : decide ((l1 : Int) < 0) = false := by simp
  have HZ := Lib.hid (hz.below hb1)
  have BX := BX.below hb1
  clear hz hb1 HW HS
  have k0 := BX.two.cell (j := 0) rfl
  have k1 := BX.two.cell (j := 1) rfl
  have k2 := BX.two.cell (j := 2) rfl
  go_wp2_with fail
  refine (HS2.out l1 _ hl1 BX.bel).mono ?_
  rintro e u2 ⟨hb1, he⟩
  rcases he with rfl | ⟨l2, hl2, rfl, ys, hy⟩
  · have B := BX.below hb1
    clear k0 k1 k2
    go_wp2_with fail
    go_ret
    exact ⟨rfl, B.bel⟩
  have hvv2 : decide ((l2 : Int) < 0) = false := by simp
  have HZ := Lib.hid (HZ.out.below hb1)
  have HY := Lib.hid (hy.below hb1)
  have BX := BX.below hb1
  clear hy hb1 HS2 k0 k1 k2
  obtain ⟨wi, HWI⟩ : ∃ wi, Hid (u2 = wi) := ⟨_, rfl⟩
  rw [HWI.out] at HZ HY BX ⊢
  clear HWI u2
  have HT : Hid (∀ w', Below wi.heap.size wi w' → Calls Try.prog 32 #[.agg #[.slice a1 n1 c1, .int .i64 e1, .int .i64 d1]] w' (MadeOc w' ⟨(a1, n1, c1), e1, d1⟩ zs)) := Lib.hid (fun w' hb => toOutcome_any ⟨(a1, n1, c1), e1, d1⟩ zs w' (HZ.out.below hb))
  have HU : Hid (∀ w', Below wi.heap.size wi w' → Calls Try.prog 32 #[.agg #[.slice a2 n2 c2, .int .i64 e2, .int .i64 d2]] w' (MadeOc w' ⟨(a2, n2, c2), e2, d2⟩ ys)) := Lib.hid (fun w' hb => toOutcome_any ⟨(a2, n2, c2), e2, d2⟩ ys w' (HY.out.below hb))
  clear HZ HY
  obtain ⟨Z, HLK⟩ : ∃ Z, Hid (likeB zs ys e1 d1 e2 d2 = Z) := ⟨_, rfl⟩
  have hne : (Z != Z) = false := by simp
  have g0 := BX.one.cell (j := 0) rfl
  have g1 := BX.one.cell (j := 1) rfl
  have g2 := BX.one.cell (j := 2) rfl
  have g3 := BX.two.cell (j := 0) rfl
  have g4 := BX.two.cell (j := 1) rfl
  have g5 := BX.two.cell (j := 2) rfl
  go_wp2_with fail
  have hd : Below wi.heap.size wi wi.drew := ⟨rfl, rfl, rfl, Nat.le_refl _, fun _ _ => rfl⟩
  have HD := Lib.hid hd
  have HBX := Lib.hid BX
  go_region_held3 (fun w' => w'.cell? ⟨w.heap.size, 0, none⟩ = some (.slice a1 n1 c1) ∧ w'.cell? ⟨w.heap.size, 1, none⟩ = some (.int .i64 e1) ∧ w'.cell? ⟨w.heap.size, 2, none⟩ = some (.int .i64 d1) ∧ w'.cell? ⟨w.heap.size + 1, 0, none⟩ = some (.slice a2 n2 c2) ∧ w'.cell? ⟨w.heap.size + 1, 1, none⟩ = some (.int .i64 e2) ∧ w'.cell? ⟨w.heap.size + 1, 2, none⟩ = some (.int .i64 d2)) (first | (refine ⟨?_, ?_, ?_, ?_, ?_, ?_⟩ <;> assumption) | go_keep | (refine ⟨?_, ?_, ?_, ?_, ?_, ?_⟩ <;> go_keep)) (first
    | (go_at_call 32; (with_reducible show Calls _ _ #[.agg #[.slice a1 n1 c1, .int .i64 e1, .int .i64 d1]] _ _); refine (HT.out _ HD.out).mono ?_; rintro e v1 ⟨⟨p1, m1, x1⟩, rfl, ho1, hb1⟩; have B1 := HBX.out.below (hd.trans (hb1.mono hd.size)); have ht1 := HD.out.trans (hb1.mono HD.out.size); have h0 := B1.one.cell (j := 0) rfl; have h1 := B1.one.cell (j := 1) rfl; have h2 := B1.one.cell (j := 2) rfl; have h3 := B1.two.cell (j := 0) rfl; have h4 := B1.two.cell (j := 1) rfl; have h5 := B1.two.cell (j := 2) rfl; clear hb1)
    | (go_at_call 32; (with_reducible show Calls _ _ #[.agg #[.slice a2 n2 c2, .int .i64 e2, .int .i64 d2]] _ _); refine (HU.out _ ht1).mono ?_; rintro e v2 ⟨⟨p2, m2, x2⟩, rfl, ho2, hb2⟩; have B2 := B1.below hb2; have ht2 := ht1.trans (hb2.mono ht1.size); have ho1' := ho1.below hb2; have k0 := B2.one.cell (j := 0) rfl; have k1 := B2.one.cell (j := 1) rfl; have k2 := B2.one.cell (j := 2) rfl; have k3 := B2.two.cell (j := 0) rfl; have k4 := B2.two.cell (j := 1) rfl; have k5 := B2.two.cell (j := 2) rfl; clear hb2)
    | (go_at_call 31; refine (specLike_any (p1, m1, x1) (p2, m2, x2) e1 d1 e2 d2 zs ys _ ho1'.ints ho2.ints).mono ?_; rintro e v4 ⟨rfl, hb4⟩; rw [HLK.out]; have B4 := B2.below hb4; have ht4 := ht2.trans (hb4.mono ht2.size); have m0 := B4.one.cell (j := 0) rfl; have m1 := B4.one.cell (j := 1) rfl; have m2 := B4.one.cell (j := 2) rfl; have m3 := B4.two.cell (j := 0) rfl; have m4 := B4.two.cell (j := 1) rfl; have m5 := B4.two.cell (j := 2) rfl; clear hb4))
  clear g0 g1 g2 g3 g4 g5 h0 h1 h2 h3 h4 h5 k0 k1 k2 k3 k4 k5 m0 m1 m2 m3 m4 m5 ho1 ho1' ho2 B1 B2 ht1 ht2 HBX HD hd
  have g0 := B4.one.cell (j := 0) rfl
  have g1 := B4.one.cell (j := 1) rfl
  have g2 := B4.one.cell (j := 2) rfl
  have g3 := B4.two.cell (j := 0) rfl
  have g4 := B4.two.cell (j := 1) rfl
  have g5 := B4.two.cell (j := 2) rfl
  go_wp2_with fail
  refine (HT.out _ ht4).mono ?_
  rintro e v5 ⟨⟨q1, l1', qx1⟩, rfl, hoq, hbq⟩
  simp only [ocV, slV]
  have ht5 := ht4.trans (hbq.mono ht4.size)
  have B5 := B4.below hbq
  clear g0 g1 g2 g3 g4 g5 hbq ht4 B4
  obtain ⟨va, HVA⟩ : ∃ va, Hid (va = v5.alloc (.cells #[.slice q1 l1' qx1, .int .i64 e1, .int .i64 d1] 44)) := ⟨_, rfl⟩
  have X : Blk va v5.heap.size 44 [.slice q1 l1' qx1, .int .i64 e1, .int .i64 d1] := by rw [HVA.out]; exact Blk.new v5 _ _
  have hba : Below v5.heap.size v5 va := by rw [HVA.out]; exact (Below.refl _ _).alloc (Nat.le_refl _) _
  have B5 := B5.below hba
  have ht5 := ht5.trans (hba.mono ht5.size)
  have hoq := hoq.below hba
  obtain ⟨X0, HX0⟩ : ∃ X0, Hid (v5.heap.size = X0) := ⟨_, rfl⟩
  rw [HX0.out] at X
  have k3 := B5.two.cell (j := 0) rfl
  have k4 := B5.two.cell (j := 1) rfl
  have k5 := B5.two.cell (j := 2) rfl
  rw [HVA.out] at k3 k4 k5
  go_wp2_with fail
  rw [← HVA.out, HX0.out]
  clear k3 k4 k5 hba HVA HX0
  refine (HU.out _ ht5).mono ?_
  rintro e v6 ⟨⟨f1, g1', fy1⟩, rfl, hof, hbf⟩
  simp only [ocV, slV]
  have ht6 := ht5.trans (hbf.mono ht5.size)
  have B6 := B5.below hbf
  have X := X.below hbf X.lt
  have hoq := hoq.below hbf
  clear hbf ht5 B5
  obtain ⟨vb, HVB⟩ : ∃ vb, Hid (vb = v6.alloc (.cells #[.slice f1 g1' fy1, .int .i64 e2, .int .i64 d2] 44)) := ⟨_, rfl⟩
  have Y : Blk vb v6.heap.size 44 [.slice f1 g1' fy1, .int .i64 e2, .int .i64 d2] := by rw [HVB.out]; exact Blk.new v6 _ _
  have hba : Below v6.heap.size v6 vb := by rw [HVB.out]; exact (Below.refl _ _).alloc (Nat.le_refl _) _
  have B6 := B6.below hba
  have ht6 := ht6.trans (hba.mono ht6.size)
  have hoq := hoq.below hba
  have hof := hof.below hba
  have X := X.below hba X.lt
  obtain ⟨Y0, HY0⟩ : ∃ Y0, Hid (v6.heap.size = Y0) := ⟨_, rfl⟩
  rw [HY0.out] at Y
  have g0 := X.cell (j := 0) rfl
  have g1 := X.cell (j := 1) rfl
  have g2 := X.cell (j := 2) rfl
  have k0 := Y.cell (j := 0) rfl
  have k1 := Y.cell (j := 1) rfl
  have k2 := Y.cell (j := 2) rfl
  rw [HVB.out] at g0 g1 g2 k0 k1 k2
  rw [← HY0.out] at k0 k1 k2
  go_wp2_with fail
  rw [← HVB.out, HY0.out]
  clear hba HVB HY0
  refine (implLike_any (q1, l1', qx1) (f1, g1', fy1) e1 d1 e2 d2 zs ys _ hoq.ints hof.ints).mono ?_
  rintro e v8 ⟨rfl, hb8⟩
  rw [HLK.out]
  have ht8 := ht6.trans (hb8.mono ht6.size)
  have B8 := B6.below hb8
  have X := X.below hb8 X.lt
  have Y := Y.below hb8 Y.lt
  have HO := Lib.hid (hoq.below hb8)
  have HEV := Lib.hid (hof.below hb8)
  clear g0 g1 g2 k0 k1 k2 hb8 ht6 B6 hoq hof HLK
  have g0 := B8.one.cell (j := 0) rfl
  have g1 := B8.one.cell (j := 1) rfl
  have g2 := B8.one.cell (j := 2) rfl
  have i0 := X.cell (j := 0) rfl
  have i1 := X.cell (j := 1) rfl
  have i2 := X.cell (j := 2) rfl
  go_wp2_with fail
  have hd : Below v8.heap.size v8 v8.drew := ⟨rfl, rfl, rfl, Nat.le_refl _, fun _ _ => rfl⟩
  have HTD := Lib.hid (HT.out _ (ht8.trans (hd.mono ht8.size)))
  have HEQ : Hid (∀ w' v', Below v8.heap.size v8 w' → Ints w' v'.1 v'.2.1 zs → Calls Try.prog 33 #[.agg #[.slice q1 l1' qx1, .int .i64 e1, .int .i64 d1], ocV ⟨v', e1, d1⟩] w' fun e w'' => e = .returned (.bool true) ∧ Below w'.heap.size w' w'') := Lib.hid (fun w' v' hb hr => eqOutcome_same (q1, l1', qx1) v' e1 d1 zs w' (HO.out.below hb).ints hr)
  have HX := Lib.hid X
  have HBB := Lib.hid B8
  go_region_held3 (fun w' => w'.cell? ⟨w.heap.size, 0, none⟩ = some (.slice a1 n1 c1) ∧ w'.cell? ⟨w.heap.size, 1, none⟩ = some (.int .i64 e1) ∧ w'.cell? ⟨w.heap.size, 2, none⟩ = some (.int .i64 d1) ∧ w'.cell? ⟨X0, 0, none⟩ = some (.slice q1 l1' qx1) ∧ w'.cell? ⟨X0, 1, none⟩ = some (.int .i64 e1) ∧ w'.cell? ⟨X0, 2, none⟩ = some (.int .i64 d1)) (first | (refine ⟨?_, ?_, ?_, ?_, ?_, ?_⟩ <;> assumption) | go_keep | (refine ⟨?_, ?_, ?_, ?_, ?_, ?_⟩ <;> go_keep)) (first
    | (go_at_call 32; refine HTD.out.mono ?_; rintro e v9 ⟨⟨s1, t1, sx1⟩, rfl, hos, hbs⟩; have hb9 := hd.trans (hbs.mono hd.size); have Q := HX.out.below hb9 HX.out.lt; have m0 := Q.cell (j := 0) rfl; have m1 := Q.cell (j := 1) rfl; have m2 := Q.cell (j := 2) rfl; have Q := HBB.out.below hb9; have o0 := Q.one.cell (j := 0) rfl; have o1 := Q.one.cell (j := 1) rfl; have o2 := Q.one.cell (j := 2) rfl; have HE := Lib.hid (HEQ.out v9 (s1, t1, sx1) hb9 hos.ints); have HB9 := Lib.hid hb9; clear Q hb9 hbs hos)
    | (go_at_call 33; refine HE.out.mono ?_; rintro e va2 ⟨rfl, hba⟩; have HB10 := Lib.hid (HB9.out.trans (hba.mono HB9.out.size)); have Q := HX.out.below HB10.out HX.out.lt; have b0 := Q.cell (j := 0) rfl; have b1 := Q.cell (j := 1) rfl; have b2 := Q.cell (j := 2) rfl; have Q := HBB.out.below HB10.out; have f0 := Q.one.cell (j := 0) rfl; have f1' := Q.one.cell (j := 1) rfl; have f2 := Q.one.cell (j := 2) rfl; clear Q hba))
  have ht10 := ht8.trans (HB10.out.mono ht8.size)
  have B10 := B8.below HB10.out
  have Y := Y.below HB10.out Y.lt
  have HEV := Lib.hid (HEV.out.below HB10.out)
  clear m0 m1 m2 o0 o1 o2 b0 b1 b2 f0 f1' f2 g0 g1 g2 i0 i1 i2 HX HBB HEQ HTD hd HE HB9 HB10 B8 X HO
  have g0 := B10.two.cell (j := 0) rfl
  have g1 := B10.two.cell (j := 1) rfl
  have g2 := B10.two.cell (j := 2) rfl
  have i0 := Y.cell (j := 0) rfl
  have i1 := Y.cell (j := 1) rfl
  have i2 := Y.cell (j := 2) rfl
  go_wp2_with fail
  have hd : Below va2.heap.size va2 va2.drew := ⟨rfl, rfl, rfl, Nat.le_refl _, fun _ _ => rfl⟩
  have HTD := Lib.hid (HU.out _ (ht10.trans (hd.mono ht10.size)))
  have HEQ : Hid (∀ w' v', Below va2.heap.size va2 w' → Ints w' v'.1 v'.2.1 ys → Calls Try.prog 33 #[.agg #[.slice f1 g1' fy1, .int .i64 e2, .int .i64 d2], ocV ⟨v', e2, d2⟩] w' fun e w'' => e = .returned (.bool true) ∧ Below w'.heap.size w' w'') := Lib.hid (fun w' v' hb hr => eqOutcome_same (f1, g1', fy1) v' e2 d2 ys w' (HEV.out.below hb).ints hr)
  have HX := Lib.hid Y
  have HBB := Lib.hid B10
  go_region_held3 (fun w' => w'.cell? ⟨w.heap.size + 1, 0, none⟩ = some (.slice a2 n2 c2) ∧ w'.cell? ⟨w.heap.size + 1, 1, none⟩ = some (.int .i64 e2) ∧ w'.cell? ⟨w.heap.size + 1, 2, none⟩ = some (.int .i64 d2) ∧ w'.cell? ⟨Y0, 0, none⟩ = some (.slice f1 g1' fy1) ∧ w'.cell? ⟨Y0, 1, none⟩ = some (.int .i64 e2) ∧ w'.cell? ⟨Y0, 2, none⟩ = some (.int .i64 d2)) (first | (refine ⟨?_, ?_, ?_, ?_, ?_, ?_⟩ <;> assumption) | go_keep | (refine ⟨?_, ?_, ?_, ?_, ?_, ?_⟩ <;> go_keep)) (first
    | (go_at_call 32; refine HTD.out.mono ?_; rintro e v9 ⟨⟨s1, t1, sx1⟩, rfl, hos, hbs⟩; have hb9 := hd.trans (hbs.mono hd.size); have Q := HX.out.below hb9 HX.out.lt; have m0 := Q.cell (j := 0) rfl; have m1 := Q.cell (j := 1) rfl; have m2 := Q.cell (j := 2) rfl; have Q := HBB.out.below hb9; have o0 := Q.two.cell (j := 0) rfl; have o1 := Q.two.cell (j := 1) rfl; have o2 := Q.two.cell (j := 2) rfl; have HE := Lib.hid (HEQ.out v9 (s1, t1, sx1) hb9 hos.ints); have HB9 := Lib.hid hb9; clear Q hb9 hbs hos)
    | (go_at_call 33; refine HE.out.mono ?_; rintro e va3 ⟨rfl, hba⟩; have HB10 := Lib.hid (HB9.out.trans (hba.mono HB9.out.size)); have Q := HX.out.below HB10.out HX.out.lt; have b0 := Q.cell (j := 0) rfl; have b1 := Q.cell (j := 1) rfl; have b2 := Q.cell (j := 2) rfl; have Q := HBB.out.below HB10.out; have f0 := Q.two.cell (j := 0) rfl; have f1' := Q.two.cell (j := 1) rfl; have f2 := Q.two.cell (j := 2) rfl; clear Q hba))
  have B12 := Lib.hid (B10.below HB10.out).bel
  clear m0 m1 m2 o0 o1 o2 b0 b1 b2 f0 f1' f2 g0 g1 g2 i0 i1 i2 HX HBB HEQ HTD hd HE HB9 HB10 B10 Y HEV
  go_wp2
  go_ret
  exact ⟨rfl, B12.out⟩

/-! ### THE ROW's STEP -/
set_option maxRecDepth 100000 in
theorem lifted (os : Os) (started : os.Started) (H : Type) (enc : TypeId × Value → H) :
    ReturnsInHanded {} Try.checked os 5 .any (Rows.fnExactLikeOutcomesSpec.pre6 enc Try.prog Try.f5 Rows.fnExactLikeOutcomesRow.domain false) (Rows.fnExactLikeOutcomesSpec.post enc Try.prog Try.f5 false true false false) := by
  refine returnsInHanded_of_change (C := Try.checked) own started (by kernel_rfl) Try.func5
    (ChangeSpec.witness6 (enc := enc) (C := Try.checked) false ⟨#[], #[.agg #[.slice none 0 0, .int .i64 0, .int .i64 0], .agg #[.slice none 0 0, .int .i64 0, .int .i64 0]], []⟩ 8 (by kernel_rfl) (by kernel_rfl) (by kernel_rfl) (by kernel_rfl)) ?_
  intro W base args ds gs before hval0 hW hcnd _
  have hval : ∀ (j : Nat) t v, Try.f5.params[j]? = some t → args[j]? = some v → Value.okWide Try.prog W .any base t v := hval0
  have hW' := hW
  obtain ⟨p, q, hA0, hV, rfl, hfz, hnd⟩ := hW
  have hA : DataW.TrodAll enc Try.prog W 0 (fun _ => true) true Try.f5.params.toList args.toList ds p := hA0
  rw [Try.params5] at hA hval
  obtain ⟨v0, vs0, d0, ds0, p0, q0, hargs, rfl, rfl, h0, r0⟩ := trodAll_cons hA
  obtain ⟨v1, vs1, d1, ds1, p1, q1, hargs1, rfl, rfl, h1, r1⟩ := trodAll_cons r0
  obtain ⟨rfl, rfl, rfl⟩ := trodAll_nil r1
  obtain rfl : args = #[v0, v1] := by cases args; simp_all
  obtain ⟨rfl, rfl⟩ := trodVars_none hV
  have lt0 : ∀ x ∈ p0, x.block < W.heap.size := by obtain ⟨m, hm⟩ := h0; exact DataW.trod_lt m _ _ _ hm
  obtain ⟨r0, rfl, w0⟩ := argOc_of (hval 0 67 v0 rfl rfl) h0
  have lt1 : ∀ x ∈ p1, x.block < W.heap.size := by obtain ⟨m, hm⟩ := h1; exact DataW.trod_lt m _ _ _ hm
  obtain ⟨r1, rfl, w1⟩ := argOc_of (hval 1 67 v1 rfl rfl) h1
  clear hA0 hval0
  refine (walk r0 r1 W w0 w1).mono fun e W' ⟨he, bel⟩ => ?_
  subst he
  exact ⟨_, rfl, _, _, _, [], _, [], hW', trodAll_mk1 (shut_bool Try.underlying4 _), (trodAll_cons_mk (Below.trod laidOut (by kernel_rfl) (of_decide_eq_true (by kernel_rfl)) h0 bel lt0) (trodAll_cons_mk (Below.trod laidOut (by kernel_rfl) (of_decide_eq_true (by kernel_rfl)) h1 bel lt1) trodAll_mk0)), rfl, bel.frame _, fun h => by cases h⟩

theorem over : Rows.fnExactLikeOutcomesRow.holds Try.pinned (OpenSpec.ofChange Rows.fnExactLikeOutcomesSpec) :=
  OpenClaim.holds_of_wide 5 Try.f5 rfl rfl rfl rfl rfl rfl rfl ⟨rfl, rfl, rfl, rfl, rfl⟩ rfl rfl rfl rfl rfl (by kernel_rfl) Try.func5 (by kernel_rfl)
    (of_decide_eq_true (by kernel_rfl)) (by unfold Func.isWrapper; first | (rw [if_pos (by decide +kernel)]; kernel_rfl) | (rw [if_neg (by decide +kernel)]; exact ⟨rfl, rfl⟩))
    (fun os started H enc _ => lifted os started H enc)

/-- ████ THE STATEMENT ████ -/
theorem proved : Rows.FnExactLikeOutcomesSaid := over
#print axioms proved
end Go.Proofs.Ytdippnnhibgjoaa.fnExactLikeOutcomes
