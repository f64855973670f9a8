/- Joined texts of this proof (SpecProgOk, SpecShow, SpecShowExp, AnyStmts), in build order. -/
import Derived.Test.YtjboghmcmlkpoaaGreatDoorJ15
import Derived.Test.YtjboghmcmlkpoaaGreatDoorJ8
import Derived.Test.YtjboghmcmlkpoaaGreatDoorJ9
import Derived.Test.YtjboghmcmlkpoaaGreatDoorJ14
import Derived.Test.YtjboghmcmlkpoaaGreatDoorJ4
import Derived.Test.YtjboghmcmlkpoaaGreatDoorJ3
/- The contracts of the model's ProgOk and StepsOf. -/
namespace Go.Proofs.YtjboghmcmlkpoaaGreatDoor
open Go.RowKit

/-- What StepsOf answers. -/
noncomputable def stepsB (p : Prg) : Int := if codeB p = 0 then (stepsN p.body : Int) else -1
theorem codeB_ok {p : Prg} (h : codeB p = 0) : p.body.length ≤ 40 ∧ Steps p.body 0 p.body.length (stepsN p.body) := by
  unfold codeB at h
  split at h
  · exact absurd h (by decide)
  split at h
  · exact absurd h (by decide)
  split at h
  · exact absurd h (by decide)
  split at h
  · exact absurd h (by decide)
  split at h
  · exact absurd h (by decide)
  rename_i h3 h4 h5
  have hs : stmtsB p = true := by simpa using h4
  have hr : roomB p = true := by simpa using h3
  have hb : blockOf p.body 0 = (p.body.length : Int) := by simpa using h5
  simp only [roomB, Bool.and_eq_true, decide_eq_true_eq] at hr
  exact ⟨by omega, stepsN_spec (part_steps (loops_ok hs) _ 0 _ (Nat.le_refl _) (Nat.zero_le _) hb)⟩
set_option maxHeartbeats 800000 in
theorem specProgOk_any (r : PRow) (p : Prg) (w : World) (h : ProgAt w r p) :
    Calls Tryz.prog 12 #[progV r] w fun e w' => e = .returned (.bool (codeB p == 0)) ∧ Below w.heap.size w w' := by
  have HC : Hid (∀ w', Below w.heap.size w w' → Calls Tryz.prog 46 #[progV r] w' fun e w'' => e = .returned (.int .i64 (codeB p)) ∧ Below w'.heap.size w' w'') := Lib.hid (fun w' hw => specCodeOf_any r p w' (h.below hw))
  obtain ⟨Z, HZ⟩ : ∃ Z, Hid (codeB p = Z) := ⟨_, rfl⟩
  rw [HZ.out] at HC ⊢
  obtain ⟨wd, ⟨a1, n1, c1⟩, ⟨a2, n2, c2⟩, tp, ⟨a3, n3, c3⟩, ⟨a4, n4, c4⟩, rows⟩ := r
  clear h HZ
  show Calls Tryz.prog 12 #[.agg #[.int .i64 wd, .slice a1 n1 c1, .slice a2 n2 c2, .int .i64 tp, .slice a3 n3 c3, .slice a4 n4 c4]] w _
  have HB : Below w.heap.size w (w.alloc (.cells #[.int .i64 wd, .slice a1 n1 c1, .slice a2 n2 c2, .int .i64 tp, .slice a3 n3 c3, .slice a4 n4 c4] 28)) := (Below.refl _ _).alloc (Nat.le_refl _) _
  go_enter Tryz.func12, Tryz.ntmps12
  go_wp2_with fail
  refine (HC.out _ HB).mono ?_
  rintro e w1 ⟨rfl, hb1⟩
  have HB := HB.trans (hb1.mono HB.size)
  go_wp2
  go_ret
  exact ⟨ret_bool (by cases hz : (Z == 0) <;> simp_all), HB⟩
end Go.Proofs.YtjboghmcmlkpoaaGreatDoor
/- The contracts of the model's l4Sign, l4Var and l4Exp: an expression in words. -/
namespace Go.Proofs.YtjboghmcmlkpoaaGreatDoor
open Go.RowKit

theorem str_cat (x y : List UInt8) : (⟨x.toArray⟩ : ByteArray) ++ ⟨y.toArray⟩ = ⟨(x ++ y).toArray⟩ := by
  apply ByteArray.ext
  simp
/-- A sum of two texts, under a name: for walks that want it as an equation. -/
theorem cat_ex (a b : ByteArray) (A B : Nat) (ha : a.size ≤ A) (hb : b.size ≤ B) (h : A + B ≤ 1000000) :
    ∃ s : ByteArray, Hid (s = a ++ b) ∧ s.size ≤ A + B ∧ ∀ W : World, (Op.stringOp .add a b).run Tryz.prog W = .ok (.string s) W :=
  ⟨a ++ b, rfl, by rw [ByteArray.size_append]; omega, fun W => run_string_add_sum W a b (by omega)⟩
set_option maxHeartbeats 1600000 in
theorem l4Sign_any (op : Int) (w : World) (h5 : 5 ≤ op) (h16 : op ≤ 16) :
    Calls Tryz.prog 141 #[.int .i64 op] w fun e w' => e = .returned (.string ⟨(signS op).toArray⟩) ∧ Below w.heap.size w w' := by
  have hc : op = 5 ∨ op = 6 ∨ op = 7 ∨ op = 8 ∨ op = 9 ∨ op = 10 ∨ op = 11 ∨ op = 12 ∨ op = 13 ∨ op = 14 ∨ op = 15 ∨ op = 16 := by omega
  rcases hc with rfl | rfl | rfl | rfl | rfl | rfl | rfl | rfl | rfl | rfl | rfl | rfl
  all_goals
    go_enter Tryz.func141, Tryz.ntmps141
    go_wp2
    go_ret
    exact ⟨rfl, (Below.refl _ _).alloc (Nat.le_refl _) _⟩
set_option maxHeartbeats 1600000 in
theorem l4Var_any (r : PRow) (n : Int) (w : World) (h0 : 0 ≤ n) (h1 : n < 256) (hL : r.lows.2.1 ≤ 1048576) (hS : r.secrets.2.1 ≤ 1048576) :
    Calls Tryz.prog 140 #[progV r, .int .i64 n] w fun e w' => e = .returned (.string ⟨(varS r.lows.2.1 r.secrets.2.1 n).toArray⟩) ∧ Below w.heap.size w w' := by
  obtain ⟨wd, ⟨a1, n1, c1⟩, ⟨a2, n2, c2⟩, tp, ⟨a3, n3, c3⟩, ⟨a4, n4, c4⟩, rows⟩ := r
  simp only [] at hL hS ⊢
  obtain ⟨V, HV⟩ : ∃ V, Hid (varS n1 n2 n = V) := ⟨_, rfl⟩
  rw [HV.out]
  show Calls Tryz.prog 140 #[.agg #[.int .i64 wd, .slice a1 n1 c1, .slice a2 n2 c2, .int .i64 tp, .slice a3 n3 c3, .slice a4 n4 c4], .int .i64 n] w _
  have HB : Below w.heap.size w (w.alloc (.cells #[.int .i64 wd, .slice a1 n1 c1, .slice a2 n2 c2, .int .i64 tp, .slice a3 n3 c3, .slice a4 n4 c4] 28)) := (Below.refl _ _).alloc (Nat.le_refl _) _
  have HV1 := HV.out
  unfold varS at HV1
  by_cases d1 : n < (n1 : Int)
  · rw [if_pos d1] at HV1
    subst HV1
    have hl := digs3 h0 (by omega)
    go_enter Tryz.func140, Tryz.ntmps140
    go_wp2_with fail
    refine (l1Int_any n _ h0 (by omega)).mono ?_
    rintro e w1 ⟨rfl, hb1⟩
    obtain ⟨t, HT⟩ : ∃ t, Hid (Lib.itoa n = t) := ⟨_, rfl⟩
    rw [HT.out] at hl ⊢
    obtain ⟨bt, HBT⟩ : ∃ bt : ByteArray, Hid (bt = ⟨t.toArray⟩) := ⟨_, rfl⟩
    have hbt : bt.size ≤ 10 := by rw [HBT.out]; show t.toArray.size ≤ 10; simp; omega
    rw [← HBT.out]
    have HB := HB.trans (hb1.mono HB.size)
    go_wp2_with fail
    go_ret
    exact ⟨ret_str (by rw [HBT.out, HT.out]; exact app_one _ _), HB⟩
  rw [if_neg d1] at HV1
  by_cases d2 : n < (n1 : Int) + (n2 : Int)
  · rw [if_pos d2] at HV1
    subst HV1
    have hl := digs3 (n := n - (n1 : Int)) (by omega) (by omega)
    go_enter Tryz.func140, Tryz.ntmps140
    go_wp2_with fail
    refine (l1Int_any (n - (n1 : Int)) _ (by omega) (by omega)).mono ?_
    rintro e w1 ⟨rfl, hb1⟩
    obtain ⟨t, HT⟩ : ∃ t, Hid (Lib.itoa (n - (n1 : Int)) = t) := ⟨_, rfl⟩
    rw [HT.out] at hl ⊢
    obtain ⟨bt, HBT⟩ : ∃ bt : ByteArray, Hid (bt = ⟨t.toArray⟩) := ⟨_, rfl⟩
    have hbt : bt.size ≤ 10 := by rw [HBT.out]; show t.toArray.size ≤ 10; simp; omega
    rw [← HBT.out]
    have HB := HB.trans (hb1.mono HB.size)
    go_wp2_with fail
    go_ret
    exact ⟨ret_str (by rw [HBT.out, HT.out]; exact app_one _ _), HB⟩
  · rw [if_neg d2] at HV1
    subst HV1
    have hl := digs3 (n := n - (n1 : Int) - (n2 : Int)) (by omega) (by omega)
    go_enter Tryz.func140, Tryz.ntmps140
    go_wp2_with fail
    refine (l1Int_any (n - (n1 : Int) - (n2 : Int)) _ (by omega) (by omega)).mono ?_
    rintro e w1 ⟨rfl, hb1⟩
    obtain ⟨t, HT⟩ : ∃ t, Hid (Lib.itoa (n - (n1 : Int) - (n2 : Int)) = t) := ⟨_, rfl⟩
    rw [HT.out] at hl ⊢
    obtain ⟨bt, HBT⟩ : ∃ bt : ByteArray, Hid (bt = ⟨t.toArray⟩) := ⟨_, rfl⟩
    have hbt : bt.size ≤ 10 := by rw [HBT.out]; show t.toArray.size ≤ 10; simp; omega
    rw [← HBT.out]
    have HB := HB.trans (hb1.mono HB.size)
    go_wp2_with fail
    go_ret
    exact ⟨ret_str (by rw [HBT.out, HT.out]; exact app_one _ _), HB⟩
end Go.Proofs.YtjboghmcmlkpoaaGreatDoor
/- The contract of the model's l4Exp: an expression in words. -/
namespace Go.Proofs.YtjboghmcmlkpoaaGreatDoor
open Go.RowKit

/-- What is said of l4Exp, for trees of at most N Terms. -/
def ExpW (r : PRow) (N : Nat) : Prop := ∀ (T : Tr) (a : Option Addr) (n c : Nat) (w : World), T.flat.length ≤ N → T.okT → (∀ t ∈ T.flat, t.1 ≠ 17) → n ≤ 3000 → Terms w a n T.flat → n ≤ c →
  Calls Tryz.prog 76 #[progV r, .slice a n c] w fun e w' => e = .returned (.string ⟨(T.words r.lows.2.1 r.secrets.2.1).toArray⟩) ∧ Below w.heap.size w w'
theorem kid_flat_lt {op n : Int} {kids : List Tr} {i : Nat} (hi : i < kids.length) : (kids.getD i default).flat.length < (Tr.node op n kids).flat.length := by
  have := flats_take_le kids i hi
  simp only [Tr.flat, List.length_append, List.length_singleton]; omega
theorem kid_mem {op n : Int} {kids : List Tr} {i : Nat} (hi : i < kids.length) {t : Tm} (h : t ∈ (kids.getD i default).flat) : t ∈ (Tr.node op n kids).flat := by
  have e : Tr.flats kids = Tr.flats (kids.take (i + 1)) ++ Tr.flats (kids.drop (i + 1)) := by rw [← flats_append, List.take_append_drop]
  simp only [Tr.flat]
  rw [e, flats_take_succ kids i hi]
  simp only [List.mem_append]
  exact .inl (.inl (.inr h))
theorem tsAt_map (kids : List Tr) (i : Nat) (hi : i < kids.length) : tsAt (kids.map Tr.flat) i = (kids.getD i default).flat := by
  unfold tsAt
  rw [List.getD_eq_getElem?_getD, List.getElem?_map, List.getElem?_eq_getElem hi, List.getD_eq_getElem?_getD, List.getElem?_eq_getElem hi]; rfl
theorem wordss_getD (L S : Nat) (kids : List Tr) (i : Nat) (hi : i < kids.length) : (Tr.wordss L S kids).getD i [] = (kids.getD i default).words L S := by
  induction kids generalizing i with
  | nil => simp at hi
  | cons t r ih =>
    cases i with
    | zero => simp [Tr.wordss]
    | succ i => simp only [Tr.wordss, List.getD_cons_succ]; exact ih i (by simpa using hi)
theorem words_def (L S : Nat) (op n : Int) (kids : List Tr) : (Tr.node op n kids).words L S = wordOf L S op n (Tr.wordss L S kids) := by simp [Tr.words]
theorem op_cases {op n : Int} {kids : List Tr} (h : (Tr.node op n kids).okT) (h17 : ∀ t ∈ (Tr.node op n kids).flat, t.1 ≠ 17) :
    0 ≤ n ∧ n ≤ 255 ∧ ((op = 0 ∧ kids.length = 0) ∨ (op = 1 ∧ kids.length = 0) ∨ (op = 2 ∧ kids.length = 1) ∨ (op = 3 ∧ kids.length = 1) ∨ (op = 4 ∧ kids.length = 1) ∨ (5 ≤ op ∧ op ≤ 16 ∧ kids.length = 2)) := by
  simp only [Tr.okT] at h
  obtain ⟨h1, h2, h3, _⟩ := (tOkB_iff _).1 h.1
  have hk := h.2.1
  have h7 := h17 (op, n) (by simp [Tr.flat])
  simp only [] at h1 h2 h3 h7
  refine ⟨h2, h3, ?_⟩
  unfold takesI at hk h1
  repeat' split at hk
  all_goals (repeat' split at h1)
  all_goals omega
theorem strSz {b : ByteArray} {l : List UInt8} (h : b = ⟨l.toArray⟩) : b.size = l.length := by rw [h]; show l.toArray.size = _; simp

set_option maxRecDepth 20000 in
set_option maxHeartbeats 3200000 in
theorem l4Exp_step (r : PRow) (N : Nat) (ih : Hid (ExpW r N)) (hL : r.lows.2.1 ≤ 1048576) (hS : r.secrets.2.1 ≤ 1048576) : ExpW r (N + 1) := by
  intro T a n c w hN hok h17 hn h hc
  obtain ⟨op, nn, kids⟩ := T
  have HL := Lib.hid h.1
  have hexp : expB (Tr.node op nn kids).flat = true := (expB_iff _).2 ⟨by rw [HL.out]; exact hn, by simpa using runD_flat _ 0 (by omega) hok⟩
  have HP := Lib.hid (partsL_yes hexp (stackOf_flat _ hok))
  have hpos : 0 < n := by rw [← HL.out]; exact flat_pos _
  obtain ⟨b, o, x, y, rfl, hb, hz, hin1, hin2, hc1, hc2⟩ := h.at_ (k := n - 1) (by omega)
  have hxy : (x, y) = (op, nn) := by
    rw [← hz.out, ← HL.out]
    simp only [Tr.flat, List.length_append, List.length_singleton]
    rw [show (Tr.flats kids).length + 1 - 1 = (Tr.flats kids).length + 0 by omega, tmAt_append_right]; rfl
  injection hxy with e1 e2
  subst e1 e2
  obtain ⟨hy0, hy1, hcase⟩ := op_cases hok h17
  have HW8 := Lib.hid (words_len r.lows.2.1 r.secrets.2.1 _ hok)
  have HKID : Hid (∀ i, i < kids.length → ∀ (a' : Option Addr) (n' c' : Nat) (w' : World), Terms w' a' n' (kids.getD i default).flat → n' ≤ c' → Calls Tryz.prog 76 #[progV r, .slice a' n' c'] w' fun e w'' => e = .returned (.string ⟨((kids.getD i default).words r.lows.2.1 r.secrets.2.1).toArray⟩) ∧ Below w'.heap.size w' w'') := by
    refine Lib.hid fun i hi a' n' c' w' h' hc' => ?_
    have hlt := kid_flat_lt (op := x) (n := y) hi
    refine ih.out (kids.getD i default) a' n' c' w' (by omega) ?_ (fun t ht => h17 t (kid_mem hi ht)) ?_ h' hc'
    · have hok' := hok
      simp only [Tr.okT] at hok'
      exact oks_getD hok'.2.2 hi
    · have := h'.1; have := HL.out; omega
  have HWK : Hid (∀ i, i < kids.length → ((kids.getD i default).words r.lows.2.1 r.secrets.2.1).length ≤ 24000) := by
    refine Lib.hid fun i hi => ?_
    have hok' := hok
    simp only [Tr.okT] at hok'
    have h1 := words_len r.lows.2.1 r.secrets.2.1 _ (oks_getD hok'.2.2 hi)
    have h2 := kid_flat_lt (op := x) (n := y) hi
    have := HL.out
    omega
  have HV : Hid (∀ w' : World, Calls Tryz.prog 140 #[progV r, .int .i64 y] w' fun e w'' => e = .returned (.string ⟨(varS r.lows.2.1 r.secrets.2.1 y).toArray⟩) ∧ Below w'.heap.size w' w'') := Lib.hid (fun w' => l4Var_any r y w' hy0 (by omega) hL hS)
  have HWD := Lib.hid (words_def r.lows.2.1 r.secrets.2.1 x y kids)
  rw [HWD.out]
  obtain ⟨wd, ⟨a1, n1, c1⟩, ⟨a2, n2, c2⟩, tp, ⟨a3, n3, c3⟩, ⟨a4, n4, c4⟩, rows⟩ := r
  simp only [] at hL hS HKID HWK HV HWD HW8 ⊢
  obtain ⟨V, HVV⟩ : ∃ V, Hid (wordOf n1 n2 x y (Tr.wordss n1 n2 kids) = V) := ⟨_, rfl⟩
  rw [HVV.out]
  show Calls Tryz.prog 76 #[.agg #[.int .i64 wd, .slice a1 n1 c1, .slice a2 n2 c2, .int .i64 tp, .slice a3 n3 c3, .slice a4 n4 c4], .slice (some ⟨b, o, none⟩) n c] w _
  obtain ⟨wb, HW⟩ : ∃ wb, Hid (wb = (w.alloc (.cells #[.int .i64 wd, .slice a1 n1 c1, .slice a2 n2 c2, .int .i64 tp, .slice a3 n3 c3, .slice a4 n4 c4] 28)).alloc (.cells #[.int .i64 x, .int .i64 y] 105)) := ⟨_, rfl⟩
  have BP : Blk wb w.heap.size 28 [.int .i64 wd, .slice a1 n1 c1, .slice a2 n2 c2, .int .i64 tp, .slice a3 n3 c3, .slice a4 n4 c4] := by rw [HW.out]; exact (Blk.new w _ _).below ((Below.refl _ _).alloc (Nat.le_refl _) _) (Blk.new w _ _).lt
  have BT : Blk wb (w.heap.size + 1) 105 [.int .i64 x, .int .i64 y] := by rw [HW.out]; have := Blk.new (w.alloc (.cells #[.int .i64 wd, .slice a1 n1 c1, .slice a2 n2 c2, .int .i64 tp, .slice a3 n3 c3, .slice a4 n4 c4] 28)) 105 [.int .i64 x, .int .i64 y]; simpa using this
  have HB : Below w.heap.size w wb := by rw [HW.out]; exact ((Below.refl _ _).alloc (Nat.le_refl _) _).alloc (by simp) _
  go_enter Tryz.func76, Tryz.ntmps76
  go_wp2_with fail
  rw [← HW.out]
  refine (specPartsOf_any _ _ _ _ _ (h.below (Nat.le_refl _) HB) hc).mono ?_
  rintro e w1 ⟨pa, pn, pc, rs, rfl, hss, hb1⟩
  rw [HP.out] at hss
  have hkl : kids.length = pn := by have := hss.2.2.1; simpa using this
  have BP := BP.below hb1 BP.lt
  have BT := BT.below hb1 BT.lt
  have HB := HB.trans (hb1.mono HB.size)
  have t0 := BT.cell (j := 0) rfl
  have t1 := BT.cell (j := 1) rfl
  have HSS := Lib.hid hss
  clear hss hb1 hc1 hc2 h hz HW hok h17 HP HL HW8 hexp HWD ih
  rcases hcase with ⟨rfl, hk⟩ | ⟨rfl, hk⟩ | ⟨rfl, hk⟩ | ⟨rfl, hk⟩ | ⟨rfl, hk⟩ | ⟨h5, h16, hk⟩
  · have HE : Hid (wordOf n1 n2 0 y (Tr.wordss n1 n2 kids) = Lib.itoa y) := Lib.hid (by simp [wordOf])
    go_wp2_with fail
    refine (l1Int_any y _ hy0 (by omega)).mono ?_
    rintro e w2 ⟨rfl, hb2⟩
    go_wp2
    go_ret
    exact ⟨ret_str (by rw [← HVV.out, HE.out]), HB.trans (hb2.mono HB.size)⟩
  · have HE : Hid (wordOf n1 n2 1 y (Tr.wordss n1 n2 kids) = varS n1 n2 y) := Lib.hid (by simp [wordOf])
    have p0 := BP.cell (j := 0) rfl
    have p1 := BP.cell (j := 1) rfl
    have p2 := BP.cell (j := 2) rfl
    have p3 := BP.cell (j := 3) rfl
    have p4 := BP.cell (j := 4) rfl
    have p5 := BP.cell (j := 5) rfl
    go_wp2_with fail
    refine (HV.out _).mono ?_
    rintro e w2 ⟨rfl, hb2⟩
    go_wp2
    go_ret
    exact ⟨ret_str (by rw [← HVV.out, HE.out]), HB.trans (hb2.mono HB.size)⟩
  · have HE : Hid (wordOf n1 n2 2 y (Tr.wordss n1 n2 kids) = 109 :: (Lib.itoa y ++ (91 :: ((kids.getD 0 default).words n1 n2 ++ [93])))) := Lib.hid (by rw [← wordss_getD n1 n2 kids 0 (by omega)]; simp [wordOf])
    obtain rfl : pn = 1 := by omega
    obtain ⟨kb0, ko0, ka0, km0, kc0, e0, hkb0, hks0, hkc0, hkT0⟩ := HSS.out.reads.at_ (k := 0) (by omega)
    rw [tsAt_map kids 0 (by omega)] at hkT0
    have hcap0 : km0 ≤ kc0 := by have := (HSS.out.2.2.2.1 0 (by omega)).cap; rw [hks0.out] at this; exact this
    obtain ⟨bx0, HBX0⟩ : ∃ bx : ByteArray, Hid (bx = ⟨((kids.getD 0 default).words n1 n2).toArray⟩) := ⟨_, rfl⟩
    have hbx0 : bx0.size ≤ 24000 := by rw [strSz HBX0.out]; exact HWK.out 0 (by omega)
    have HC0 : Hid (∀ p : Lat w1, Calls Tryz.prog 76 #[.agg #[.int .i64 wd, .slice a1 n1 c1, .slice a2 n2 c2, .int .i64 tp, .slice a3 n3 c3, .slice a4 n4 c4], .slice ka0 km0 kc0] p.wd fun e w' => e = .returned (.string bx0) ∧ Below p.wd.heap.size p.wd w') := Lib.hid (fun p => by rw [HBX0.out]; exact HKID.out 0 (by omega) ka0 km0 kc0 p.wd (hkT0.below (Nat.le_refl _) p.ok) hcap0)
    rw [Nat.add_zero] at hkc0
    have k0 := lat_cell hkb0 hkc0
    obtain ⟨bt, HBT⟩ : ∃ bt : ByteArray, Hid (bt = ⟨(Lib.itoa y).toArray⟩) := ⟨_, rfl⟩
    have hbt : bt.size ≤ 10 := by rw [strSz HBT.out]; have := digs3 hy0 (by omega); omega
    have HCT : Hid (∀ p : Lat w1, Calls Tryz.prog 92 #[.int .i64 y] p.wd fun e w' => e = .returned (.string bt) ∧ Below p.wd.heap.size p.wd w') := Lib.hid (fun p => by rw [HBT.out]; exact l1Int_any y p.wd hy0 (by omega))
    subst e0
    clear HSS HKID HWK HV hkT0 hkc0
    have g0 := lat_cell BP.lt (BP.cell (j := 0) rfl)
    have g1 := lat_cell BP.lt (BP.cell (j := 1) rfl)
    have g2 := lat_cell BP.lt (BP.cell (j := 2) rfl)
    have g3 := lat_cell BP.lt (BP.cell (j := 3) rfl)
    have g4 := lat_cell BP.lt (BP.cell (j := 4) rfl)
    have g5 := lat_cell BP.lt (BP.cell (j := 5) rfl)
    have f0 := lat_cell BT.lt (BT.cell (j := 0) rfl)
    have f1 := lat_cell BT.lt (BT.cell (j := 1) rfl)
    obtain ⟨s1, HS1, z1, q1⟩ := cat_ex ⟨#[109]⟩ bt (1) (10) (Nat.le_refl 1) hbt (by omega)
    obtain ⟨s2, HS2, z2, q2⟩ := cat_ex s1 ⟨#[91]⟩ (1 + 10) (1) z1 (Nat.le_refl 1) (by omega)
    obtain ⟨s3, HS3, z3, q3⟩ := cat_ex s2 bx0 (1 + 10 + 1) (24000) z2 hbx0 (by omega)
    obtain ⟨s4, HS4, z4, q4⟩ := cat_ex s3 ⟨#[93]⟩ (1 + 10 + 1 + 24000) (1) z3 (Nat.le_refl 1) (by omega)
    go_wp2_with fail
    refine wp_region_lat (by kernel_rfl) (by kernel_rfl) ?_
    repeat (quiet_step (first | (go_at_call 92; exact lat_calls (HCT.out _)) | (go_at_call 76; exact lat_calls (HC0.out _))))
    refine wpQuiet_nil ?_
    intro _ hw'
    obtain ⟨⟨wq, hwq⟩, hw''⟩ := hw'
    subst hw''
    go_wp2
    go_ret
    exact ⟨ret_str (by rw [HS4.out, HS3.out, HS2.out, HS1.out, HBT.out, HBX0.out, ← HVV.out, HE.out]; apply ByteArray.ext; simp), HB.trans (hwq.mono HB.size)⟩
  · have HE : Hid (wordOf n1 n2 3 y (Tr.wordss n1 n2 kids) = 33 :: (kids.getD 0 default).words n1 n2) := Lib.hid (by rw [← wordss_getD n1 n2 kids 0 (by omega)]; simp [wordOf])
    obtain rfl : pn = 1 := by omega
    obtain ⟨kb0, ko0, ka0, km0, kc0, e0, hkb0, hks0, hkc0, hkT0⟩ := HSS.out.reads.at_ (k := 0) (by omega)
    rw [tsAt_map kids 0 (by omega)] at hkT0
    have hcap0 : km0 ≤ kc0 := by have := (HSS.out.2.2.2.1 0 (by omega)).cap; rw [hks0.out] at this; exact this
    obtain ⟨bx0, HBX0⟩ : ∃ bx : ByteArray, Hid (bx = ⟨((kids.getD 0 default).words n1 n2).toArray⟩) := ⟨_, rfl⟩
    have hbx0 : bx0.size ≤ 24000 := by rw [strSz HBX0.out]; exact HWK.out 0 (by omega)
    have HC0 : Hid (∀ p : Lat w1, Calls Tryz.prog 76 #[.agg #[.int .i64 wd, .slice a1 n1 c1, .slice a2 n2 c2, .int .i64 tp, .slice a3 n3 c3, .slice a4 n4 c4], .slice ka0 km0 kc0] p.wd fun e w' => e = .returned (.string bx0) ∧ Below p.wd.heap.size p.wd w') := Lib.hid (fun p => by rw [HBX0.out]; exact HKID.out 0 (by omega) ka0 km0 kc0 p.wd (hkT0.below (Nat.le_refl _) p.ok) hcap0)
    rw [Nat.add_zero] at hkc0
    have k0 := lat_cell hkb0 hkc0
    subst e0
    clear HSS HKID HWK HV hkT0 hkc0
    have g0 := lat_cell BP.lt (BP.cell (j := 0) rfl)
    have g1 := lat_cell BP.lt (BP.cell (j := 1) rfl)
    have g2 := lat_cell BP.lt (BP.cell (j := 2) rfl)
    have g3 := lat_cell BP.lt (BP.cell (j := 3) rfl)
    have g4 := lat_cell BP.lt (BP.cell (j := 4) rfl)
    have g5 := lat_cell BP.lt (BP.cell (j := 5) rfl)
    have f0 := lat_cell BT.lt (BT.cell (j := 0) rfl)
    have f1 := lat_cell BT.lt (BT.cell (j := 1) rfl)
    obtain ⟨s1, HS1, z1, q1⟩ := cat_ex ⟨#[33]⟩ bx0 (1) (24000) (Nat.le_refl 1) hbx0 (by omega)
    go_wp2_with fail
    refine wp_region_lat (by kernel_rfl) (by kernel_rfl) ?_
    repeat (quiet_step ((go_at_call 76; exact lat_calls (HC0.out _))))
    refine wpQuiet_nil ?_
    intro _ hw'
    obtain ⟨⟨wq, hwq⟩, hw''⟩ := hw'
    subst hw''
    go_wp2
    go_ret
    exact ⟨ret_str (by rw [HS1.out, HBX0.out, ← HVV.out, HE.out]; apply ByteArray.ext; simp), HB.trans (hwq.mono HB.size)⟩
  · have HE : Hid (wordOf n1 n2 4 y (Tr.wordss n1 n2 kids) = 45 :: (kids.getD 0 default).words n1 n2) := Lib.hid (by rw [← wordss_getD n1 n2 kids 0 (by omega)]; simp [wordOf])
    obtain rfl : pn = 1 := by omega
    obtain ⟨kb0, ko0, ka0, km0, kc0, e0, hkb0, hks0, hkc0, hkT0⟩ := HSS.out.reads.at_ (k := 0) (by omega)
    rw [tsAt_map kids 0 (by omega)] at hkT0
    have hcap0 : km0 ≤ kc0 := by have := (HSS.out.2.2.2.1 0 (by omega)).cap; rw [hks0.out] at this; exact this
    obtain ⟨bx0, HBX0⟩ : ∃ bx : ByteArray, Hid (bx = ⟨((kids.getD 0 default).words n1 n2).toArray⟩) := ⟨_, rfl⟩
    have hbx0 : bx0.size ≤ 24000 := by rw [strSz HBX0.out]; exact HWK.out 0 (by omega)
    have HC0 : Hid (∀ p : Lat w1, Calls Tryz.prog 76 #[.agg #[.int .i64 wd, .slice a1 n1 c1, .slice a2 n2 c2, .int .i64 tp, .slice a3 n3 c3, .slice a4 n4 c4], .slice ka0 km0 kc0] p.wd fun e w' => e = .returned (.string bx0) ∧ Below p.wd.heap.size p.wd w') := Lib.hid (fun p => by rw [HBX0.out]; exact HKID.out 0 (by omega) ka0 km0 kc0 p.wd (hkT0.below (Nat.le_refl _) p.ok) hcap0)
    rw [Nat.add_zero] at hkc0
    have k0 := lat_cell hkb0 hkc0
    subst e0
    clear HSS HKID HWK HV hkT0 hkc0
    have g0 := lat_cell BP.lt (BP.cell (j := 0) rfl)
    have g1 := lat_cell BP.lt (BP.cell (j := 1) rfl)
    have g2 := lat_cell BP.lt (BP.cell (j := 2) rfl)
    have g3 := lat_cell BP.lt (BP.cell (j := 3) rfl)
    have g4 := lat_cell BP.lt (BP.cell (j := 4) rfl)
    have g5 := lat_cell BP.lt (BP.cell (j := 5) rfl)
    have f0 := lat_cell BT.lt (BT.cell (j := 0) rfl)
    have f1 := lat_cell BT.lt (BT.cell (j := 1) rfl)
    obtain ⟨s1, HS1, z1, q1⟩ := cat_ex ⟨#[45]⟩ bx0 (1) (24000) (Nat.le_refl 1) hbx0 (by omega)
    go_wp2_with fail
    refine wp_region_lat (by kernel_rfl) (by kernel_rfl) ?_
    repeat (quiet_step ((go_at_call 76; exact lat_calls (HC0.out _))))
    refine wpQuiet_nil ?_
    intro _ hw'
    obtain ⟨⟨wq, hwq⟩, hw''⟩ := hw'
    subst hw''
    go_wp2
    go_ret
    exact ⟨ret_str (by rw [HS1.out, HBX0.out, ← HVV.out, HE.out]; apply ByteArray.ext; simp), HB.trans (hwq.mono HB.size)⟩
  · have HE : Hid (wordOf n1 n2 x y (Tr.wordss n1 n2 kids) = 40 :: ((kids.getD 0 default).words n1 n2 ++ (32 :: (signS x ++ (32 :: ((kids.getD 1 default).words n1 n2 ++ [41])))))) := Lib.hid (by rw [← wordss_getD n1 n2 kids 0 (by omega), ← wordss_getD n1 n2 kids 1 (by omega)]; unfold wordOf; rw [if_neg (by omega), if_neg (by omega), if_neg (by omega), if_neg (by omega), if_neg (by omega)])
    obtain rfl : pn = 2 := by omega
    obtain ⟨kb0, ko0, ka0, km0, kc0, e0, hkb0, hks0, hkc0, hkT0⟩ := HSS.out.reads.at_ (k := 0) (by omega)
    rw [tsAt_map kids 0 (by omega)] at hkT0
    have hcap0 : km0 ≤ kc0 := by have := (HSS.out.2.2.2.1 0 (by omega)).cap; rw [hks0.out] at this; exact this
    obtain ⟨bx0, HBX0⟩ : ∃ bx : ByteArray, Hid (bx = ⟨((kids.getD 0 default).words n1 n2).toArray⟩) := ⟨_, rfl⟩
    have hbx0 : bx0.size ≤ 24000 := by rw [strSz HBX0.out]; exact HWK.out 0 (by omega)
    have HC0 : Hid (∀ p : Lat w1, Calls Tryz.prog 76 #[.agg #[.int .i64 wd, .slice a1 n1 c1, .slice a2 n2 c2, .int .i64 tp, .slice a3 n3 c3, .slice a4 n4 c4], .slice ka0 km0 kc0] p.wd fun e w' => e = .returned (.string bx0) ∧ Below p.wd.heap.size p.wd w') := Lib.hid (fun p => by rw [HBX0.out]; exact HKID.out 0 (by omega) ka0 km0 kc0 p.wd (hkT0.below (Nat.le_refl _) p.ok) hcap0)
    rw [Nat.add_zero] at hkc0
    have k0 := lat_cell hkb0 hkc0
    obtain ⟨kb1, ko1, ka1, km1, kc1, e1, hkb1, hks1, hkc1, hkT1⟩ := HSS.out.reads.at_ (k := 1) (by omega)
    rw [tsAt_map kids 1 (by omega)] at hkT1
    have hcap1 : km1 ≤ kc1 := by have := (HSS.out.2.2.2.1 1 (by omega)).cap; rw [hks1.out] at this; exact this
    obtain ⟨bx1, HBX1⟩ : ∃ bx : ByteArray, Hid (bx = ⟨((kids.getD 1 default).words n1 n2).toArray⟩) := ⟨_, rfl⟩
    have hbx1 : bx1.size ≤ 24000 := by rw [strSz HBX1.out]; exact HWK.out 1 (by omega)
    have HC1 : Hid (∀ p : Lat w1, Calls Tryz.prog 76 #[.agg #[.int .i64 wd, .slice a1 n1 c1, .slice a2 n2 c2, .int .i64 tp, .slice a3 n3 c3, .slice a4 n4 c4], .slice ka1 km1 kc1] p.wd fun e w' => e = .returned (.string bx1) ∧ Below p.wd.heap.size p.wd w') := Lib.hid (fun p => by rw [HBX1.out]; exact HKID.out 1 (by omega) ka1 km1 kc1 p.wd (hkT1.below (Nat.le_refl _) p.ok) hcap1)
    skip
    have k1 := lat_cell hkb1 hkc1
    obtain ⟨bt, HBT⟩ : ∃ bt : ByteArray, Hid (bt = ⟨(signS x).toArray⟩) := ⟨_, rfl⟩
    have hbt : bt.size ≤ 10 := by rw [strSz HBT.out]; have := signS_len x; omega
    have HCT : Hid (∀ p : Lat w1, Calls Tryz.prog 141 #[.int .i64 x] p.wd fun e w' => e = .returned (.string bt) ∧ Below p.wd.heap.size p.wd w') := Lib.hid (fun p => by rw [HBT.out]; exact l4Sign_any x p.wd h5 h16)
    subst e0
    injection e1 with e1
    injection e1 with e2 e3
    subst e2 e3
    have x0 : (x == 0) = false := by simp; omega
    have x1 : (x == 1) = false := by simp; omega
    have x2 : (x == 2) = false := by simp; omega
    have x3 : (x == 3) = false := by simp; omega
    have x4 : (x == 4) = false := by simp; omega
    clear HSS HKID HWK HV hkT0 hkc0 hkT1 hkc1
    have g0 := lat_cell BP.lt (BP.cell (j := 0) rfl)
    have g1 := lat_cell BP.lt (BP.cell (j := 1) rfl)
    have g2 := lat_cell BP.lt (BP.cell (j := 2) rfl)
    have g3 := lat_cell BP.lt (BP.cell (j := 3) rfl)
    have g4 := lat_cell BP.lt (BP.cell (j := 4) rfl)
    have g5 := lat_cell BP.lt (BP.cell (j := 5) rfl)
    have f0 := lat_cell BT.lt (BT.cell (j := 0) rfl)
    have f1 := lat_cell BT.lt (BT.cell (j := 1) rfl)
    obtain ⟨s1, HS1, z1, q1⟩ := cat_ex ⟨#[40]⟩ bx0 (1) (24000) (Nat.le_refl 1) hbx0 (by omega)
    obtain ⟨s2, HS2, z2, q2⟩ := cat_ex s1 ⟨#[32]⟩ (1 + 24000) (1) z1 (Nat.le_refl 1) (by omega)
    obtain ⟨s3, HS3, z3, q3⟩ := cat_ex s2 bt (1 + 24000 + 1) (10) z2 hbt (by omega)
    obtain ⟨s4, HS4, z4, q4⟩ := cat_ex s3 ⟨#[32]⟩ (1 + 24000 + 1 + 10) (1) z3 (Nat.le_refl 1) (by omega)
    obtain ⟨s5, HS5, z5, q5⟩ := cat_ex s4 bx1 (1 + 24000 + 1 + 10 + 1) (24000) z4 hbx1 (by omega)
    obtain ⟨s6, HS6, z6, q6⟩ := cat_ex s5 ⟨#[41]⟩ (1 + 24000 + 1 + 10 + 1 + 24000) (1) z5 (Nat.le_refl 1) (by omega)
    go_wp2_with fail
    refine wp_region_lat (by kernel_rfl) (by kernel_rfl) ?_
    repeat (quiet_step (first | (go_at_call 141; exact lat_calls (HCT.out _)) | (go_at_call 76; first | with_reducible exact lat_calls (HC0.out _) | with_reducible exact lat_calls (HC1.out _))))
    refine wpQuiet_nil ?_
    intro _ hw'
    obtain ⟨⟨wq, hwq⟩, hw''⟩ := hw'
    subst hw''
    go_wp2
    go_ret
    exact ⟨ret_str (by rw [HS6.out, HS5.out, HS4.out, HS3.out, HS2.out, HS1.out, HBT.out, HBX0.out, HBX1.out, ← HVV.out, HE.out]; apply ByteArray.ext; simp), HB.trans (hwq.mono HB.size)⟩
theorem l4Exp_all (r : PRow) (hL : r.lows.2.1 ≤ 1048576) (hS : r.secrets.2.1 ≤ 1048576) : ∀ N, ExpW r N
  | 0 => fun T a n c w hN => absurd (flat_pos T) (by omega)
  | N + 1 => l4Exp_step r N (Lib.hid (l4Exp_all r hL hS N)) hL hS
theorem l4Exp_any (r : PRow) (T : Tr) (a : Option Addr) (n c : Nat) (w : World) (hL : r.lows.2.1 ≤ 1048576) (hS : r.secrets.2.1 ≤ 1048576) (hok : T.okT) (h17 : ∀ t ∈ T.flat, t.1 ≠ 17) (hn : n ≤ 3000) (h : Terms w a n T.flat) (hc : n ≤ c) :
    Calls Tryz.prog 76 #[progV r, .slice a n c] w fun e w' => e = .returned (.string ⟨(T.words r.lows.2.1 r.secrets.2.1).toArray⟩) ∧ Below w.heap.size w w' :=
  l4Exp_all r hL hS _ T a n c w (Nat.le_refl _) hok h17 hn h hc
end Go.Proofs.YtjboghmcmlkpoaaGreatDoor
/- Slices of Stmts of the call's own whose Stmts are not told; 'append' to them. -/
namespace Go.Proofs.YtjboghmcmlkpoaaGreatDoor
open Go.RowKit

/-- A slice of Stmts of the call's own, from block B on; its Stmts' slices lie from B on, too. -/
def OwnS (w : World) (B : Nat) (a : Option Addr) (n c : Nat) (rs : List SRow) (ss : List Stm) : Prop :=
  w.ownsRow B 76 4 (.slice a n c) n (flatS rs) ∧ n ≤ 1048576 ∧ ss.length = n ∧ ∀ i, i < n → OwnStm w B (srAt rs i) (stAt ss i)
section
variable {w w' : World} {B : Nat} {r : SRow} {s : Stm} {a : Option Addr} {n c : Nat} {rs : List SRow} {ss : List Stm}
theorem OwnS.len (h : OwnS w B a n c rs ss) : rs.length = n := by have := h.1.1; rw [flatS_len] at this; omega
theorem OwnS.below (h : OwnS w B a n c rs ss) (hb : Below w.heap.size w w') : OwnS w' B a n c rs ss :=
  ⟨h.1.kept (row := none) ⟨hb.os, hb.tape, hb.output, hb.size, fun k hk _ => hb.block k hk⟩ (by cases a <;> simp [Value.ownBlock]), h.2.1, h.2.2.1, fun i hi => (h.2.2.2 i hi).below hb⟩
theorem OwnS.base {B' : Nat} (h : OwnS w B a n c rs ss) (hB : B' ≤ B) : OwnS w B' a n c rs ss := by
  refine ⟨⟨h.1.1, ?_⟩, h.2.1, h.2.2.1, fun i hi => (h.2.2.2 i hi).base hB⟩
  rcases h.1.2 with hn | ⟨g, cap, cur, e, hb, r⟩
  · exact .inl hn
  · exact .inr ⟨g, cap, cur, e, by omega, r⟩
theorem OwnS.reads (h : OwnS w B a n c rs ss) : Stmts w a n rs ss := by
  have hlen := h.len
  obtain ⟨ho, hn, hs, hi⟩ := h
  refine ⟨hlen, hs, hn, fun hp => ?_, fun i h' => (hi i h').reads⟩
  rcases ho.2 with ⟨_, h0⟩ | ⟨g, cap, cur, e, _, hh, _⟩
  · exact absurd hp (by omega)
  · have ea : a = some ⟨g, 0, none⟩ := by injection e
    subst ea
    refine ⟨g, 0, rfl, (ho.lt g rfl).2, fun i h' => ?_⟩
    have e0 := flatS_at rs i 0 (by omega) (by omega)
    have e1 := flatS_at rs i 1 (by omega) (by omega)
    have e2 := flatS_at rs i 2 (by omega) (by omega)
    have e3 := flatS_at rs i 3 (by omega) (by omega)
    rw [Nat.zero_add, ho.cellAt (i * 4) (by omega), ho.cellAt (i * 4 + 1) (by omega), ho.cellAt (i * 4 + 2) (by omega), ho.cellAt (i * 4 + 3) (by omega)]
    exact ⟨e0, e1, e2, e3⟩
theorem OwnS.block (h : OwnS w B a n c rs ss) : ∀ g, (Value.slice a n c).ownBlock = some g → B ≤ g ∧ g < w.heap.size := h.1.lt
theorem OwnS.cap (h : OwnS w B a n c rs ss) : n ≤ c := by
  rcases h.1.2 with ⟨e1, h0⟩ | ⟨g, cap, cur, e1, hb, hg, hnc, _⟩
  · injection e1 with _ e2 e3; omega
  · injection e1 with _ e2 e3; omega
/-- An elder block turns. -/
theorem OwnT.old {p : Nat} {ts : List Tm} (h : OwnT w B a n c ts) (hp : p < B) (hg : w.grownBy w' (some p)) : OwnT w' B a n c ts :=
  h.apart hg (fun g hgg e => by have := (h.block g hgg).1; injection e with e; omega)
theorem OwnStm.old {p : Nat} (h : OwnStm w B r s) (hp : p < B) (hg : w.grownBy w' (some p)) : OwnStm w' B r s :=
  ⟨h.1, h.2.1, h.2.2.1, h.2.2.2.1, h.2.2.2.2.1.old hp hg, h.2.2.2.2.2.old hp hg⟩
theorem OwnS.old {p : Nat} (h : OwnS w B a n c rs ss) (hp : p < B) (hg : w.grownBy w' (some p)) : OwnS w' B a n c rs ss := by
  refine ⟨h.1.kept hg ?_, h.2.1, h.2.2.1, fun i hi => (h.2.2.2 i hi).old hp hg⟩
  cases hv : (Value.slice a n c).ownBlock with
  | none => exact .inl rfl
  | some g => exact .inr (fun e => by have := (h.block g hv).1; injection e with e; omega)
/-- The row of Stmts itself grows: a Stmt's Terms lie elsewhere. -/
theorem addr_add (g j : Nat) : (⟨g, 0, none⟩ : Addr).add j = ⟨g, j, none⟩ := by by_cases h : j = 0 <;> simp [Addr.add, h]
theorem kinds_apart {g : Nat} {ts : List Tm} {b : Option Addr} {m d : Nat} {xs : List Value} (h : OwnT w B b m d ts) (hr : w.ownsRow B 76 4 (.slice a n c) n xs) (hg : (Value.slice a n c).ownBlock = some g) : (Value.slice b m d).ownBlock ≠ some g := by
  intro e
  obtain ⟨c1, f1, h1⟩ := Lib.ownsRow_kind h.1 g e
  obtain ⟨c2, f2, h2⟩ := Lib.ownsRow_kind hr g hg
  rw [h1] at h2
  injection h2 with h2
  injection h2 with _ h2 _
  exact absurd h2 (by decide)
theorem OwnT.rowGrew {ts : List Tm} {b : Option Addr} {m d : Nat} {xs : List Value} (h : OwnT w B b m d ts) (hr : w.ownsRow B 76 4 (.slice a n c) n xs) (hg : w.grownBy w' (Value.slice a n c).ownBlock) : OwnT w' B b m d ts :=
  h.apart hg (fun _ e e' => kinds_apart h hr e' e)
theorem OwnStm.rowGrew {xs : List Value} (h : OwnStm w B r s) (hr : w.ownsRow B 76 4 (.slice a n c) n xs) (hg : w.grownBy w' (Value.slice a n c).ownBlock) : OwnStm w' B r s :=
  ⟨h.1, h.2.1, h.2.2.1, h.2.2.2.1, h.2.2.2.2.1.rowGrew hr hg, h.2.2.2.2.2.rowGrew hr hg⟩
end
theorem srAt_append_left {a b : List SRow} {k : Nat} (h : k < a.length) : srAt (a ++ b) k = srAt a k := by simp [srAt, List.getD_eq_getElem?_getD, List.getElem?_append_left h]
theorem srAt_append_right {a b : List SRow} {k : Nat} (h : a.length ≤ k) : srAt (a ++ b) k = srAt b (k - a.length) := by simp [srAt, List.getD_eq_getElem?_getD, List.getElem?_append_right h]
theorem stAt_append_left {a b : List Stm} {k : Nat} (h : k < a.length) : stAt (a ++ b) k = stAt a k := by simp [stAt, List.getD_eq_getElem?_getD, List.getElem?_append_left h]
theorem stAt_append_right {a b : List Stm} {k : Nat} (h : a.length ≤ k) : stAt (a ++ b) k = stAt b (k - a.length) := by simp [stAt, List.getD_eq_getElem?_getD, List.getElem?_append_right h]
theorem flatS_one (us : List SRow) : ∀ u ∈ flatS us, u.oneCell' = true := by
  intro u hu
  obtain ⟨r, _, hr⟩ := List.mem_flatMap.1 hu
  simp only [srowV, List.mem_cons, List.not_mem_nil, or_false] at hr
  rcases hr with rfl | rfl | rfl | rfl <;> rfl

/-- .. whatever its Stmts are. -/
def AnyS (w : World) (B : Nat) (a : Option Addr) (n c : Nat) : Prop := ∃ rs ss, OwnS w B a n c rs ss
/-- Some Stmts at an address, to be taken over. -/
def News (w : World) (B : Nat) (ad : Addr) (m : Nat) : Prop :=
  ∃ (us : List SRow) (vs : List Stm), us.length = m ∧ vs.length = m ∧ (∀ j u, (flatS us)[j]? = some u → w.cell? (ad.add j) = some u) ∧ ∀ i, i < m → OwnStm w B (srAt us i) (stAt vs i)
section
variable {w w' : World} {B : Nat} {a : Option Addr} {n c : Nat}
theorem AnyS.below (h : AnyS w B a n c) (hb : Below w.heap.size w w') : AnyS w' B a n c := by obtain ⟨rs, ss, h⟩ := h; exact ⟨rs, ss, h.below hb⟩
theorem AnyS.alloc (h : AnyS w B a n c) (o : Obj) : AnyS (w.alloc o) B a n c := h.below ((Below.refl _ _).alloc (Nat.le_refl _) o)
theorem AnyS.base {B' : Nat} (h : AnyS w B a n c) (hB : B' ≤ B) : AnyS w B' a n c := by obtain ⟨rs, ss, h⟩ := h; exact ⟨rs, ss, h.base hB⟩
theorem AnyS.block (h : AnyS w B a n c) : ∀ g, (Value.slice a n c).ownBlock = some g → B ≤ g ∧ g < w.heap.size := by obtain ⟨rs, ss, h⟩ := h; exact h.block
theorem AnyS.old {p : Nat} (h : AnyS w B a n c) (hp : p < B) (hg : w.grownBy w' (some p)) : AnyS w' B a n c := by obtain ⟨rs, ss, h⟩ := h; exact ⟨rs, ss, h.old hp hg⟩
theorem AnyS.some_ (h : AnyS w B a n c) (hp : 1 ≤ n) : ∃ g, a = some ⟨g, 0, none⟩ := by
  obtain ⟨rs, ss, h⟩ := h
  rcases h.1.2 with ⟨_, h0⟩ | ⟨g, cap, cur, e, _⟩
  · omega
  · exact ⟨g, by injection e⟩
theorem AnyS.news {g : Nat} (h : AnyS w B (some ⟨g, 0, none⟩) n c) : News w B ⟨g, 0, none⟩ n := by
  obtain ⟨rs, ss, h⟩ := h
  refine ⟨rs, ss, h.len, h.2.2.1, fun j u hj => ?_, h.2.2.2⟩
  have hlt : j < (flatS rs).length := (List.getElem?_eq_some_iff.1 hj).1
  rw [flatS_len, h.len] at hlt
  rw [addr_add, h.1.cellAt j hlt]
  exact hj
end
theorem anyS_nil (w : World) (B : Nat) : AnyS w B none 0 0 := ⟨[], [], World.ownsRow_nil _ _ _ _, by omega, rfl, fun i hi => absurd hi (by omega)⟩
theorem anyS_empty (w : World) (B : Nat) (hB : B ≤ w.heap.size) : AnyS (w.alloc (.cells #[] 76)) B (some ⟨w.heap.size, 0, none⟩) 0 0 :=
  ⟨[], [], World.ownsRow_lit w #[] 0 hB (by unfold maxLen; omega) rfl, by omega, rfl, fun i hi => absurd hi (by omega)⟩
/-- One new Stmt. -/
theorem news_one {w : World} {B : Nat} {op x : Int} {s1 s2 : Sl} {ts us : List Tm} (h1 : In64 op) (h2 : In64 x) (h3 : OwnT w B s1.1 s1.2.1 s1.2.2 ts) (h4 : OwnT w B s2.1 s2.2.1 s2.2.2 us) :
    News (w.alloc (.cells #[.int .i64 op, .int .i64 x, slV s1, slV s2] 76)) B ⟨w.heap.size, 0, none⟩ 1 := by
  refine ⟨[⟨op, x, s1, s2⟩], [⟨op, x, ts, us⟩], rfl, rfl, fun j u hj => ?_, fun i hi => ?_⟩
  · rw [addr_add]
    exact (Blk.new w 76 [.int .i64 op, .int .i64 x, slV s1, slV s2]).cell hj
  · obtain rfl : i = 0 := by omega
    exact ⟨rfl, rfl, h1, h2, h3.alloc _, h4.alloc _⟩
/-- Two new Stmts of numbers alone. -/
theorem news_two {w : World} {B : Nat} {op x op' x' : Int} (h1 : In64 op) (h2 : In64 x) (h3 : In64 op') (h4 : In64 x') :
    News (w.alloc (.cells #[.int .i64 op, .int .i64 x, .slice none 0 0, .slice none 0 0, .int .i64 op', .int .i64 x', .slice none 0 0, .slice none 0 0] 76)) B ⟨w.heap.size, 0, none⟩ 2 := by
  refine ⟨[⟨op, x, (none, 0, 0), (none, 0, 0)⟩, ⟨op', x', (none, 0, 0), (none, 0, 0)⟩], [⟨op, x, [], []⟩, ⟨op', x', [], []⟩], rfl, rfl, fun j u hj => ?_, fun i hi => ?_⟩
  · rw [addr_add]
    exact (Blk.new w 76 [.int .i64 op, .int .i64 x, .slice none 0 0, .slice none 0 0, .int .i64 op', .int .i64 x', .slice none 0 0, .slice none 0 0]).cell hj
  · match i, hi with
    | 0, _ => exact ⟨rfl, rfl, h1, h2, ownT_nil _ _, ownT_nil _ _⟩
    | 1, _ => exact ⟨rfl, rfl, h3, h4, ownT_nil _ _, ownT_nil _ _⟩
theorem news_plain {w : World} {B : Nat} {op x : Int} (h1 : In64 op) (h2 : In64 x) :
    News (w.alloc (.cells #[.int .i64 op, .int .i64 x, .slice none 0 0, .slice none 0 0] 76)) B ⟨w.heap.size, 0, none⟩ 1 := news_one (s1 := (none, 0, 0)) (s2 := (none, 0, 0)) h1 h2 (ownT_nil _ _) (ownT_nil _ _)
theorem news_exp {w : World} {B : Nat} {op x : Int} {a : Option Addr} {n c : Nat} {us : List Tm} (h1 : In64 op) (h2 : In64 x) (h4 : OwnT w B a n c us) :
    News (w.alloc (.cells #[.int .i64 op, .int .i64 x, .slice none 0 0, .slice a n c] 76)) B ⟨w.heap.size, 0, none⟩ 1 := news_one (s1 := (none, 0, 0)) (s2 := (a, n, c)) h1 h2 (ownT_nil _ _) h4
theorem news_both {w : World} {B : Nat} {op x : Int} {a b : Option Addr} {n c m d : Nat} {ts us : List Tm} (h1 : In64 op) (h2 : In64 x) (h3 : OwnT w B b m d ts) (h4 : OwnT w B a n c us) :
    News (w.alloc (.cells #[.int .i64 op, .int .i64 x, .slice b m d, .slice a n c] 76)) B ⟨w.heap.size, 0, none⟩ 1 := news_one (s1 := (b, m, d)) (s2 := (a, n, c)) h1 h2 h3 h4

/-- 'append(out, some Stmts...)'. -/
theorem wpList_pushS {ops : Array Oper} {rest : List Oper} {o : Oper} {ac : Act} {Q : Exit → Act → World → Prop} (w : World) (hgd : o.guard = none) (s x : Operand)
    (ho : o.op = .call { callee := .builtin .append, args := #[s, x], argTypes := #[26, 26] })
    (B : Nat) (a : Option Addr) (n c : Nat) (hs : ac.eval s = .slice a n c) (hown : AnyS w B a n c)
    (ad : Addr) (m c2 : Nat) (hx : ac.eval x = .slice (some ad) m c2) (hnews : News w B ad m) (hn : n + m ≤ 1048576) (hB : B ≤ w.heap.size)
    (h : ∀ a1 c1 w', AnyS w' B a1 (n + m) c1 → GrowsTo w (.slice a n c) w' (.slice a1 (n + m) c1) → wpList Tryz.prog ops Q rest (ac.put o.dst (.slice a1 (n + m) c1)) w') : wpList Tryz.prog ops Q (o :: rest) ac w := by
  obtain ⟨rs, ss, hown⟩ := hown
  obtain ⟨us, vs, hu, hv, hc, hst⟩ := hnews
  refine wpList_pushG w hgd s x 26 76 (.agg #[.int .i64 0, .int .i64 0, .slice none 0 0, .slice none 0 0]) 4 64 ho Tryz.underlying26 info_stmt rfl (by omega) B a n c (flatS rs) hs hown.1 ad m c2 (flatS us) hx (by rw [flatS_len, hu]) hc (flatS_one us) (by unfold maxLen; omega) (by omega) hB ?_
  intro a1 c1 w' r1 r2
  refine h a1 c1 w' ⟨rs ++ us, ss ++ vs, by rw [flatS_append]; exact r1, hn, by rw [List.length_append, hown.2.2.1, hv], fun i hi => ?_⟩ r2
  have hlr := hown.len
  have hls := hown.2.2.1
  rcases Nat.lt_or_ge i n with hlt | hge
  · rw [srAt_append_left (by omega), stAt_append_left (by omega)]
    exact (hown.2.2.2 i hlt).rowGrew hown.1 r2.1
  · rw [srAt_append_right (by omega), stAt_append_right (by omega), hlr, hls]
    exact (hst (i - n) (by omega)).rowGrew hown.1 r2.1
end Go.Proofs.YtjboghmcmlkpoaaGreatDoor
