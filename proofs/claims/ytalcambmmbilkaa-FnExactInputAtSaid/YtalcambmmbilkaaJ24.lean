/- Joined texts of this proof (SpecAt, AtAns), in build order. -/
import Derived.Test.YtalcambmmbilkaaJ23
import Derived.Test.YtalcambmmbilkaaJ13
/- The contract of the model's InputAt. -/
namespace Go.Proofs.Ytalcambmmbilkaa
open Go.RowKit

/-- What an append onto an empty literal at block b leaves: nothing, or a row there or behind N. -/
def Fix (w : World) (N b : Nat) (a : Option Addr) (m c : Nat) (ys : List Int) : Prop := m ≤ 1048576 ∧ ((m = 0 ∧ ys = []) ∨ ∃ g, a = some ⟨g, 0, none⟩ ∧ Own w 0 a m c ys ∧ (g = b ∨ N ≤ g))
theorem Fix.ints {w : World} {N b m c : Nat} {a : Option Addr} {ys : List Int} (h : Fix w N b a m c ys) : Ints w a m ys := by
  rcases h with ⟨_, ⟨rfl, rfl⟩ | ⟨g, rfl, ho, _⟩⟩
  · exact ⟨rfl, by omega, fun z hz => (by cases hz), fun hp => absurd hp (by omega)⟩
  · exact ho.ints
theorem Fix.below {w w' : World} {N b m c : Nat} {a : Option Addr} {ys : List Int} (h : Fix w N b a m c ys) (hb : Below w.heap.size w w') : Fix w' N b a m c ys := by
  rcases h with ⟨hm, h | ⟨g, hg, ho, hl⟩⟩
  · exact ⟨hm, .inl h⟩
  · exact ⟨hm, .inr ⟨g, hg, ho.below hb, hl⟩⟩
theorem Fix.other {w w' : World} {N b b' m c : Nat} {a : Option Addr} {ys : List Int} (h : Fix w N b a m c ys) (hg : w.grownBy w' (some b')) (hb : b' ≠ b) (hN : b' < N ∨ w.heap.size ≤ b') : Fix w' N b a m c ys := by
  rcases h with ⟨hm, h | ⟨g, rfl, ho, hl⟩⟩
  · exact ⟨hm, .inl h⟩
  · refine ⟨hm, .inr ⟨g, rfl, ho.keep hg (fun g' hg' e => ?_), hl⟩⟩
    have hg'' : some g = some g' := hg'
    injection hg'' with hg''
    injection e with e
    have := (ho.block g rfl).2
    omega
theorem step_cloneE {ops : Array Oper} {o : Oper} {ac : Act} {K : Act → World → Prop} {Q : Exit → Act → World → Prop} {E : Prop} (w : World) (hgd : o.guard = none) (s x : Operand)
    (ho : o.op = .call { callee := .builtin .append, args := #[s, x], argTypes := #[28, 28] })
    (b : Nat) (hs : ac.eval s = .slice (some ⟨b, 0, none⟩) 0 0) (hown : Own w 0 (some ⟨b, 0, none⟩) 0 0 [])
    (a2 : Option Addr) (m c2 : Nat) (ys : List Int) (hx : ac.eval x = .slice a2 m c2) (hi2 : Ints w a2 m ys)
    (h : ∀ a1 c1 w', Fix w' w.heap.size b a1 m c1 ys → w.grownBy w' (some b) → K (ac.put o.dst (.slice a1 m c1)) w') :
    if Region.wanted o (yielded ops ac.tmps) = true then Oper.wp Try.prog o ac w K Q else E := by
  have hm := hi2.2.1
  rcases Nat.eq_zero_or_pos m with h0 | h0
  · subst h0
    have hys : ys = [] := List.eq_nil_of_length_eq_zero hi2.1
    subst hys
    have hwant : Region.wanted o (yielded ops ac.tmps) = true := by simp [Region.wanted, hgd]
    rw [if_pos hwant]
    cases a2 with
    | none =>
      have hrun := run_append_nothing w o.type (.slice (some ⟨b, 0, none⟩) 0 0) 0 0 _ hown.1 c2
      unfold Oper.wp
      simp [execOp, ho, resolve, invoke, builtin, hs, hx, hrun, Result.andThen]
      exact h _ _ _ ⟨hm, .inl ⟨rfl, rfl⟩⟩ (World.grownBy.refl _ _)
    | some ad =>
      obtain ⟨i0, hi, hz0, hz1, hz2⟩ := info_parts info_i64
      refine wp_append_own w s x 28 ho 0 2 i0 (.int .i64 0) 1 8 Try.underlying28 hi hz0 hz1 hz2 rfl (by omega) (.slice (some ⟨b, 0, none⟩) 0 0) 0 [] hs hown.1 ad 0 c2 [] hx rfl (fun j u hj => by cases hj) (fun u hu => by cases hu) (by unfold maxLen; omega) (by omega) (by omega) ?_
      intro v' w' h1 h2 _
      have hf : ∃ a1 c1, v' = .slice a1 0 c1 := by
        rcases h1.2 with ⟨e, h0⟩ | ⟨g', cap, cur, e, _⟩
        · exact ⟨none, 0, e⟩
        · exact ⟨_, _, e⟩
      obtain ⟨a1, c1, rfl⟩ := hf
      exact h a1 c1 w' ⟨hm, .inl ⟨rfl, rfl⟩⟩ h2
  · obtain ⟨b2, o2, rfl, hb2, hc⟩ := hi2.2.2.2 h0
    refine step_pushG w hgd s x 28 2 (.int .i64 0) 1 8 ho Try.underlying28 info_i64 rfl (by omega) 0 (some ⟨b, 0, none⟩) 0 0 [] hs hown.1 ⟨b2, o2, none⟩ m c2 (ys.map (Value.int .i64)) hx (by simp [hi2.1]) ?_ (ints_oneCell _ _) h0 (by unfold maxLen; omega) (by omega) (by omega) ?_
    · intro j u hj
      have hjl : j < ys.length := by have := (List.getElem?_eq_some_iff.1 hj).1; simpa using this
      rw [Go.WideShapes.add_plain, hc j (by have := hi2.1; omega), ← hj]
      simp [List.getD_eq_getElem?_getD, hjl]
    · intro g c1 w' r1 r2
      have hl : g = b ∨ w.heap.size ≤ g := by
        rcases r2.2 g rfl with e | e
        · exact .inl (by have e' : some b = some g := e; injection e' with e'; exact e'.symm)
        · exact .inr e
      have hK := h (some ⟨g, 0, none⟩) c1 w' ⟨hm, .inr ⟨g, rfl, ⟨by simpa using r1, hm, hi2.2.2.1⟩, hl⟩⟩ r2.1
      simpa using hK
theorem belD (w : World) : Below w.heap.size w w.drew := ⟨rfl, rfl, rfl, Nat.le_refl _, fun _ _ => rfl⟩
theorem belG {w w' w'' : World} {b : Nat} (h : Below w.heap.size w w') (hg : w'.grownBy w'' (some b)) (hb : w.heap.size ≤ b) : Below w.heap.size w w'' := h.grown hg h.size (fun k e => by injection e with e; omega)
theorem belN {w w' : World} (h : Below w.heap.size w w') : Below w.heap.size w w'.drew := ⟨h.os, h.tape, h.output, h.size, h.block⟩
theorem ownD {w : World} {b : Nat} (h : Own w 0 (some ⟨b, 0, none⟩) 0 0 []) : Own w.drew 0 (some ⟨b, 0, none⟩) 0 0 [] := h
theorem own_empty' (X : World) (b : Nat) (h : X.heap.size = b) : Own (X.alloc (.cells #[] 2)) 0 (some ⟨b, 0, none⟩) 0 0 [] := by rw [← h]; exact own_empty X 0 (Nat.zero_le _)
theorem ownK {w w' : World} {b b' : Nat} (h : Own w 0 (some ⟨b, 0, none⟩) 0 0 []) (hg : w.grownBy w' (some b')) (hne : b' ≠ b) : Own w' 0 (some ⟨b, 0, none⟩) 0 0 [] := h.keep hg (fun g hg' e => by
  have hg'' : some b = some g := hg'
  injection hg'' with hg''
  injection e with e
  omega)
/-- What the model's InputAt leaves. -/
def AtSaid (w : World) (p : Prg) (N : Int) (e : Ending) (w' : World) : Prop :=
  Below w.heap.size w w' ∧ ∃ s t : Sl, e = .returned (.tuple #[slV s, slV t, .bool (atOk p N)]) ∧ Ints w' s.1 s.2.1 (atL p N) ∧ Ints w' t.1 t.2.1 (atS p N)
theorem ints_nil (w : World) (a : Option Addr) : Ints w a 0 [] := ⟨rfl, by omega, fun z hz => (by cases hz), fun hp => absurd hp (by omega)⟩
theorem l1In_any (x lo hi : Int) (w : World) : Calls Try.prog 66 #[.int .i64 x, .int .i64 lo, .int .i64 hi] w fun e w' => e = .returned (.bool (decide (lo ≤ x) && decide (x ≤ hi))) ∧ w' = w := by
  obtain ⟨R, HR⟩ : ∃ R, Hid ((decide (lo ≤ x) && decide (x ≤ hi)) = R) := ⟨_, rfl⟩
  rw [HR.out]
  go_enter Try.func66, Try.ntmps66
  by_cases h1 : lo ≤ x
  · by_cases h2 : x ≤ hi
    · obtain rfl : R = true := by rw [← HR.out, decide_eq_true h1, decide_eq_true h2]; rfl
      go_wp2
      go_ret
      exact ⟨rfl, rfl⟩
    · obtain rfl : R = false := by rw [← HR.out, decide_eq_false h2, Bool.and_false]
      go_wp2
      go_ret
      exact ⟨rfl, rfl⟩
  · obtain rfl : R = false := by rw [← HR.out, decide_eq_false h1, Bool.false_and]
    go_wp2
    go_ret
    exact ⟨rfl, rfl⟩
set_option maxRecDepth 100000 in
set_option maxHeartbeats 4000000 in
theorem specInputAt_any (r : PRow) (p : Prg) (N : Int) (w : World) (h : ProgAt w r p) (_hN : In64 N) :
    Calls Try.prog 41 #[progV r, .int .i64 N] w (AtSaid w p N) := by
  have HC : Hid (∀ w', Below w.heap.size w w' → Calls Try.prog 17 #[progV r] w' fun e w'' => e = .returned (.bool (codeB p == 0)) ∧ Below w'.heap.size w' w'') := Lib.hid (fun w' hw => specProgOk_any r p w' (h.below hw))
  have HI : Hid (∀ w', Below w.heap.size w w' → Calls Try.prog 20 #[progV r] w' fun e w'' => e = .returned (.int .i64 (countB p)) ∧ Below w'.heap.size w' w'') := Lib.hid (fun w' hw => specInputsIn_any r p w' (h.below hw))
  have HM : Hid (codeB p = 0 → ∀ w', Below w.heap.size w w' → Calls Try.prog 53 #[progV r] w' (MadeInts w' (maxesP p))) := Lib.hid (fun hz w' hw => l7Maxes_any r p w' (h.below hw) (code_inputs hz).1 (code_inputs hz).2.1)
  have HN1 : Hid (r.lows.2.1 = p.lows.length) := Lib.hid h.lows.1.symm
  clear h
  obtain ⟨wd, ⟨a1, n1, c1⟩, ⟨a2, n2, c2⟩, tp, ⟨a3, n3, c3⟩, ⟨a4, n4, c4⟩, rows⟩ := r
  simp only [progV, slV] at HC HI HM HN1
  show Calls Try.prog 41 #[.agg #[.int .i64 wd, .slice a1 n1 c1, .slice a2 n2 c2, .int .i64 tp, .slice a3 n3 c3, .slice a4 n4 c4], .int .i64 N] w _
  obtain ⟨wa, HW⟩ : ∃ wa, Hid (wa = w.alloc (.cells #[.int .i64 wd, .slice a1 n1 c1, .slice a2 n2 c2, .int .i64 tp, .slice a3 n3 c3, .slice a4 n4 c4] 31)) := ⟨_, rfl⟩
  have B : Blk wa w.heap.size 31 [.int .i64 wd, .slice a1 n1 c1, .slice a2 n2 c2, .int .i64 tp, .slice a3 n3 c3, .slice a4 n4 c4] := by rw [HW.out]; exact Blk.new w _ _
  have HB : Below w.heap.size w wa := by rw [HW.out]; exact (Below.refl _ _).alloc (Nat.le_refl _) _
  by_cases hz : codeB p = 0
  case neg =>
    have hzz : (codeB p == 0) = false := by simpa using hz
    rw [hzz] at HC
    have hok : atOk p N = false := by simp [atOk, hz]
    have HAL : Hid (atL p N = []) := Lib.hid (by rw [atL, hok]; rfl)
    have HAS : Hid (atS p N = []) := Lib.hid (by rw [atS, hok]; rfl)
    clear hz hzz HI HM
    go_enter Try.func41, Try.ntmps41
    go_wp2_with fail
    rw [← HW.out]
    refine (HC.out _ HB).mono ?_
    rintro e w1 ⟨rfl, hb1⟩
    have HF := HB.trans (hb1.mono HB.size)
    have HF2 := Lib.hid (belA (o := .cells #[] 2) (belA (o := .cells #[] 2) HF))
    clear HF HB hb1 B HW
    go_wp2
    go_ret3
    exact ⟨HF2.out, (_, 0, 0), (_, 0, 0), by rw [hok]; rfl, by rw [HAL.out]; exact ints_nil _ _, by rw [HAS.out]; exact ints_nil _ _⟩
  case pos =>
    have hzz : (codeB p == 0) = true := by simpa using hz
    rw [hzz] at HC
    have HM := Lib.hid (HM.out hz)
    have hMX := wide_of_max hz
    have hL6 := (code_max hz).1
    have hC : countB p = prodL (maxesP p) := by rw [countB, if_pos hz, countTo_prod]
    rw [hC] at HI
    have hp1 := prodL_pos (fun m hm => (hMX m hm).1)
    have hp2 := prodL_small hMX hL6
    have hok : atOk p N = (decide (0 ≤ N) && decide (N ≤ prodL (maxesP p) - 1)) := by
      simp only [atOk, hz, decide_true, Bool.true_and]
      congr 1
      exact decide_eq_decide.2 ⟨fun h => by omega, fun h => by omega⟩
    have hnL : n1 ≤ (maxesP p).length := by rw [maxesP_len, HN1.out]; omega
    have HA : Hid (atOk p N = true → atL p N = (digs (maxesP p) N).take n1 ∧ atS p N = (digs (maxesP p) N).drop n1) := Lib.hid (fun h => by rw [atL, atS, if_pos h, if_pos h, HN1.out]; exact ⟨rfl, rfl⟩)
    have HNO : Hid (atOk p N = false → atL p N = [] ∧ atS p N = []) := Lib.hid (fun h => by rw [atL, atS, h]; exact ⟨rfl, rfl⟩)
    have HMX := Lib.hid hMX
    obtain ⟨C, HCC⟩ : ∃ C, Hid (prodL (maxesP p) = C) := ⟨_, rfl⟩
    rw [HCC.out] at HI hp1 hp2 hok
    obtain ⟨ok, HOK⟩ : ∃ ok, Hid (atOk p N = ok) := ⟨_, rfl⟩
    rw [HOK.out] at hok HA HNO
    have HL1 : Hid (∀ w' : World, Calls Try.prog 66 #[.int .i64 N, .int .i64 0, .int .i64 (C - 1)] w' fun e w'' => e = .returned (.bool ok) ∧ w'' = w') := Lib.hid (fun w' => by rw [hok]; exact l1In_any _ _ _ _)
    obtain ⟨ms, HMS⟩ : ∃ ms, Hid (maxesP p = ms) := ⟨_, Lib.hid rfl⟩
    rw [HMS.out] at HM HA hL6 hnL HMX HCC
    have HR : Hid (ok = true → 0 ≤ N ∧ N ≤ 281474976710656) := Lib.hid (fun h => by
      rw [h] at hok
      have := hok.symm
      simp only [Bool.and_eq_true, decide_eq_true_eq] at this
      omega)
    clear hz hzz hMX hC hok HMS HN1
    go_enter Try.func41, Try.ntmps41
    go_wp2_with fail
    rw [← HW.out]
    refine (HC.out _ HB).mono ?_
    rintro e w1 ⟨rfl, hb1⟩
    have B := B.below hb1 B.lt
    have HB := HB.trans (hb1.mono HB.size)
    have t0 := B.cell (j := 0) rfl
    have t1 := B.cell (j := 1) rfl
    have t2 := B.cell (j := 2) rfl
    have t3 := B.cell (j := 3) rfl
    have t4 := B.cell (j := 4) rfl
    have t5 := B.cell (j := 5) rfl
    clear hb1 HW
    go_wp2_with fail
    refine (HI.out _ HB).mono ?_
    rintro e w2 ⟨rfl, hb2⟩
    have B := B.below hb2 B.lt
    have HB := HB.trans (hb2.mono HB.size)
    clear hb2 t0 t1 t2 t3 t4 t5
    go_wp2_with fail
    refine (HL1.out _).mono ?_
    rintro e w3 ⟨rfl, rfl⟩
    cases ok with
    | false =>
      have HF2 := Lib.hid (belA (o := .cells #[] 2) (belA (o := .cells #[] 2) HB))
      have HNN := Lib.hid (HNO.out rfl)
      clear HB B HNO HA HR
      go_wp2
      go_ret3
      exact ⟨HF2.out, (_, 0, 0), (_, 0, 0), by rw [HOK.out]; rfl, by rw [HNN.out.1]; exact ints_nil _ _, by rw [HNN.out.2]; exact ints_nil _ _⟩
    | true =>
      obtain ⟨r0, r1⟩ := HR.out rfl
      have t0 := B.cell (j := 0) rfl
      have t1 := B.cell (j := 1) rfl
      have t2 := B.cell (j := 2) rfl
      have t3 := B.cell (j := 3) rfl
      have t4 := B.cell (j := 4) rfl
      have t5 := B.cell (j := 5) rfl
      go_wp2_with fail
      refine (HM.out _ HB).mono ?_
      rintro e w4 ⟨ma, mn, mc, rfl, hom, hb4⟩
      have hmn : mn ≤ 6 := by rw [← hom.len]; exact hL6
      have B := B.below hb4 B.lt
      have HB := HB.trans (hb4.mono HB.size)
      clear hb4 t0 t1 t2 t3 t4 t5
      go_wp2_with fail
      refine (l7At_any _ _ _ _ N _ hom.ints HMX.out r0 r1 hmn).mono ?_
      rintro e w5 ⟨g, zc, rfl, hoz, hb5⟩
      have B := B.below hb5 B.lt
      have HB := HB.trans (hb5.mono HB.size)
      have t1 := B.cell (j := 1) rfl
      have hzn : mn = ms.length := by rw [← hoz.len, digs_len]
      have hn1z : n1 ≤ mn := by omega
      subst hzn
      have hzc := hoz.cap
      have hn1c : n1 ≤ zc := by omega
      have HI1 : Hid (∀ w', Below w5.heap.size w5 w' → Ints w' (some ⟨g, 0, none⟩) n1 ((digs ms N).take n1)) := Lib.hid (fun w' hb => ((hoz.cut hn1z).below hb).ints)
      have HW5 := Lib.hid HB
      obtain ⟨A1, A2⟩ := HA.out trivial
      have HI2 : Hid (∀ w', Below w5.heap.size w5 w' → Ints w' (if zc = n1 then some ⟨g, 0, none⟩ else some ⟨g, n1, none⟩) (ms.length - n1) ((digs ms N).drop n1)) := Lib.hid (fun w' hb => ints_tail (hoz.below hb) hn1z hzc)
      clear hom hb5 hoz HB B HR HL1 HC HI HM
      go_wp2_with fail
      go_region_law (first
        | (refine step_cloneE _ (by rfl) _ _ (by rfl) _ (by rfl) (by first | (refine own_empty' _ _ ?_; simp; done) | (refine ownD (own_empty' _ _ ?_); simp; done) | (refine (own_empty' _ _ ?_).alloc _; simp; done) | (refine ownD ((own_empty' _ _ ?_).alloc _); simp; done) | (refine ownK (own_empty' _ _ ?_) y8 ?_ <;> first | (simp; done) | (simp; omega) | omega) | (refine ownK (ownD (own_empty' _ _ ?_)) y8 ?_ <;> first | (simp; done) | (simp; omega) | omega) | (refine ownK ((own_empty' _ _ ?_).alloc _) y8 ?_ <;> first | (simp; done) | (simp; omega) | omega) | (refine ownK (ownD ((own_empty' _ _ ?_).alloc _)) y8 ?_ <;> first | (simp; done) | (simp; omega) | omega) | (refine ownK (own_empty' _ _ ?_) y9 ?_ <;> first | (simp; done) | (simp; omega) | omega) | (refine ownK (ownD (own_empty' _ _ ?_)) y9 ?_ <;> first | (simp; done) | (simp; omega) | omega) | (refine ownK ((own_empty' _ _ ?_).alloc _) y9 ?_ <;> first | (simp; done) | (simp; omega) | omega) | (refine ownK (ownD ((own_empty' _ _ ?_).alloc _)) y9 ?_ <;> first | (simp; done) | (simp; omega) | omega)) (some ⟨g, 0, none⟩) n1 zc ((digs ms N).take n1) (by rfl) (HI1.out _ (by repeat' (first | exact belD _ | exact Below.refl _ _ | refine belN ?_ | refine belA ?_ | refine belG ?_ y8 ?_ | refine belG ?_ y9 ?_ | (simp; done) | (have := y8.size; simp at this ⊢; omega) | (have := y9.size; simp at this ⊢; omega)))) ?_; intro a8 c8 w8 x8 y8)
        | (refine step_cloneE _ (by rfl) _ _ (by rfl) _ (by rfl) (by first | (refine own_empty' _ _ ?_; simp; done) | (refine ownD (own_empty' _ _ ?_); simp; done) | (refine (own_empty' _ _ ?_).alloc _; simp; done) | (refine ownD ((own_empty' _ _ ?_).alloc _); simp; done) | (refine ownK (own_empty' _ _ ?_) y8 ?_ <;> first | (simp; done) | (simp; omega) | omega) | (refine ownK (ownD (own_empty' _ _ ?_)) y8 ?_ <;> first | (simp; done) | (simp; omega) | omega) | (refine ownK ((own_empty' _ _ ?_).alloc _) y8 ?_ <;> first | (simp; done) | (simp; omega) | omega) | (refine ownK (ownD ((own_empty' _ _ ?_).alloc _)) y8 ?_ <;> first | (simp; done) | (simp; omega) | omega) | (refine ownK (own_empty' _ _ ?_) y9 ?_ <;> first | (simp; done) | (simp; omega) | omega) | (refine ownK (ownD (own_empty' _ _ ?_)) y9 ?_ <;> first | (simp; done) | (simp; omega) | omega) | (refine ownK ((own_empty' _ _ ?_).alloc _) y9 ?_ <;> first | (simp; done) | (simp; omega) | omega) | (refine ownK (ownD ((own_empty' _ _ ?_).alloc _)) y9 ?_ <;> first | (simp; done) | (simp; omega) | omega)) _ (ms.length - n1) (zc - n1) ((digs ms N).drop n1) (by rfl) (HI2.out _ (by repeat' (first | exact belD _ | exact Below.refl _ _ | refine belN ?_ | refine belA ?_ | refine belG ?_ y8 ?_ | refine belG ?_ y9 ?_ | (simp; done) | (have := y8.size; simp at this ⊢; omega) | (have := y9.size; simp at this ⊢; omega)))) ?_; intro a9 c9 w9 x9 y9))
      all_goals go_wp2
      all_goals
        go_ret3
        refine ⟨HW5.out.trans (Below.mono ?hB HW5.out.size), (a8, n1, c8), (a9, ms.length - n1, c9), ?hE, ?h1, ?h2⟩
        case hE => rw [HOK.out]; rfl
        case hB => repeat' (first | exact belD _ | exact Below.refl _ _ | refine belN ?_ | refine belA ?_ | refine belG ?_ y8 ?_ | refine belG ?_ y9 ?_ | (simp; done) | (have := y8.size; simp at this ⊢; omega) | (have := y9.size; simp at this ⊢; omega))
        case h1 => rw [A1]; first | exact x8.ints | (refine (x8.other y9 ?_ ?_).ints <;> first | omega | (simp; done) | (simp; omega)) | exact (x8.below (belG (belA (Below.refl _ _)) y9 (Nat.le_refl _))).ints | exact (x8.below (belG (belN (belA (Below.refl _ _))) y9 (Nat.le_refl _))).ints
        case h2 => rw [A2]; first | exact x9.ints | (refine (x9.other y8 ?_ ?_).ints <;> first | omega | (simp; done) | (simp; omega)) | exact (x9.below (belG (belA (Below.refl _ _)) y8 (Nat.le_refl _))).ints | exact (x9.below (belG (belN (belA (Below.refl _ _))) y8 (Nat.le_refl _))).ints
end Go.Proofs.Ytalcambmmbilkaa
/- The answers of InputAt, as a law asks for them. -/
namespace Go.Proofs.Ytalcambmmbilkaa
open Go.RowKit

theorem atL_len (p : Prg) (N : Int) : (atL p N).length ≤ 1000 := by
  rw [atL]
  split
  · rename_i h
    have hz : codeB p = 0 := by simp [atOk] at h; exact h.1
    have := (code_max hz).1
    rw [List.length_take, digs_len]; omega
  · simp
theorem atS_len (p : Prg) (N : Int) : (atS p N).length ≤ 1000 := by
  rw [atS]
  split
  · rename_i h
    have hz : codeB p = 0 := by simp [atOk] at h; exact h.1
    have := (code_max hz).1
    rw [List.length_drop, digs_len]; omega
  · simp
theorem specInputAt_ans (r : PRow) (p : Prg) (N : Int) (w : World) (h : ProgAt w r p) (hN : In64 N) :
    Calls Try.prog 41 #[progV r, .int .i64 N] w fun e w' => Below w.heap.size w w' ∧ ∃ s t : Sl, e = .returned (.tuple #[slV s, slV t, .bool (atOk p N)]) ∧ Ints w' s.1 s.2.1 (atL p N) ∧ Ints w' t.1 t.2.1 (atS p N) := specInputAt_any r p N w h hN
theorem implInputAt_ans (r : PRow) (p : Prg) (N : Int) (w : World) (h : ProgAt w r p) (hcap : r.body.2.1 ≤ r.body.2.2) (hN : In64 N) :
    Calls Try.prog 26 #[progV r, .int .i64 N] w fun e w' => Below w.heap.size w w' ∧ ∃ s t : Sl, e = .returned (.tuple #[slV s, slV t, .bool (atOk p N)]) ∧ Own w' w.heap.size s.1 s.2.1 s.2.2 (atL p N) ∧ Own w' w.heap.size t.1 t.2.1 t.2.2 (atS p N) ∧ ∀ g, (slV s).ownBlock = some g → (slV t).ownBlock ≠ some g := implInputAt_any r p N w h hcap hN
theorem markInt64S_part (s : Sl) (zs : List Int) (k : Nat) (w : World) (B : Nat) (h : Own w B s.1 s.2.1 s.2.2 zs) (hk : k ≤ 100000) :
    Calls Try.prog 38 #[slV s, .int .i64 (k : Int)] w fun e w' => e = .returned (.int .i64 ((k + zs.length : Nat) : Int)) ∧ Own w' B s.1 s.2.1 s.2.2 (marks k zs.length) ∧ w.grownBy w' (slV s).ownBlock := by
  rw [h.len]
  exact markInt64S_w s.1 s.2.1 s.2.2 zs k w B h (by omega)
theorem heldInt64S_part (s : Sl) (zs : List Int) (k : Nat) (w : World) (B : Nat) (h : Own w B s.1 s.2.1 s.2.2 (marks k zs.length)) (hk : k ≤ 100000) :
    Calls Try.prog 42 #[slV s, .int .i64 (k : Int)] w fun e w' => e = .returned (.int .i64 ((k + zs.length : Nat) : Int)) ∧ Below w.heap.size w w' := by
  have hl : zs.length = s.2.1 := by have := h.len; rwa [marks_len] at this
  rw [hl] at h ⊢
  exact (heldInt64S_any s.1 s.2.1 s.2.2 k w h.ints (by omega)).mono (fun e w' ⟨h1, h2⟩ => ⟨h1, by rw [← h2]; exact Below.refl _ _⟩)
end Go.Proofs.Ytalcambmmbilkaa
