/- Joined texts of this proof (SpecAt, SpecOf, AtAns, AtMath, SpecTable, EachTurn), in build order. -/
import Derived.Test.YtmooecbdpfhnlaaGreatJ28
import Derived.Test.YtmooecbdpfhnlaaGreatJ13
import Derived.Test.YtmooecbdpfhnlaaGreatJ23
import Derived.Test.YtmooecbdpfhnlaaGreatJ24
import Derived.Test.YtmooecbdpfhnlaaGreatJ26
/- The contract of the model's InputAt. -/
namespace Go.Proofs.YtmooecbdpfhnlaaGreat
open Go.RowKit

/-- What an append onto an empty literal at block b leaves: nothing, or a row there or behind N. -/
def Fix (w : World) (N b : Nat) (a : Option Addr) (m c : Nat) (ys : List Int) : Prop := m ≤ 1048576 ∧ ((m = 0 ∧ ys = []) ∨ ∃ g, a = some ⟨g, 0, none⟩ ∧ Own w 0 a m c ys ∧ (g = b ∨ N ≤ g))
theorem Fix.ints {w : World} {N b m c : Nat} {a : Option Addr} {ys : List Int} (h : Fix w N b a m c ys) : Ints w a m ys := by
  rcases h with ⟨_, ⟨rfl, rfl⟩ | ⟨g, rfl, ho, _⟩⟩
  · exact ⟨rfl, by omega, fun z hz => (by cases hz), fun hp => absurd hp (by omega)⟩
  · exact ho.ints
theorem Fix.below {w w' : World} {N b m c : Nat} {a : Option Addr} {ys : List Int} (h : Fix w N b a m c ys) (hb : Below w.heap.size w w') : Fix w' N b a m c ys := by
  rcases h with ⟨hm, h | ⟨g, hg, ho, hl⟩⟩
  · exact ⟨hm, .inl h⟩
  · exact ⟨hm, .inr ⟨g, hg, ho.below hb, hl⟩⟩
theorem Fix.other {w w' : World} {N b b' m c : Nat} {a : Option Addr} {ys : List Int} (h : Fix w N b a m c ys) (hg : w.grownBy w' (some b')) (hb : b' ≠ b) (hN : b' < N ∨ w.heap.size ≤ b') : Fix w' N b a m c ys := by
  rcases h with ⟨hm, h | ⟨g, rfl, ho, hl⟩⟩
  · exact ⟨hm, .inl h⟩
  · refine ⟨hm, .inr ⟨g, rfl, ho.keep hg (fun g' hg' e => ?_), hl⟩⟩
    have hg'' : some g = some g' := hg'
    injection hg'' with hg''
    injection e with e
    have := (ho.block g rfl).2
    omega
theorem step_cloneE {ops : Array Oper} {o : Oper} {ac : Act} {K : Act → World → Prop} {Q : Exit → Act → World → Prop} {E : Prop} (w : World) (hgd : o.guard = none) (s x : Operand)
    (ho : o.op = .call { callee := .builtin .append, args := #[s, x], argTypes := #[28, 28] })
    (b : Nat) (hs : ac.eval s = .slice (some ⟨b, 0, none⟩) 0 0) (hown : Own w 0 (some ⟨b, 0, none⟩) 0 0 [])
    (a2 : Option Addr) (m c2 : Nat) (ys : List Int) (hx : ac.eval x = .slice a2 m c2) (hi2 : Ints w a2 m ys)
    (h : ∀ a1 c1 w', Fix w' w.heap.size b a1 m c1 ys → w.grownBy w' (some b) → K (ac.put o.dst (.slice a1 m c1)) w') :
    if Region.wanted o (yielded ops ac.tmps) = true then Oper.wp Tryz.prog o ac w K Q else E := by
  have hm := hi2.2.1
  rcases Nat.eq_zero_or_pos m with h0 | h0
  · subst h0
    have hys : ys = [] := List.eq_nil_of_length_eq_zero hi2.1
    subst hys
    have hwant : Region.wanted o (yielded ops ac.tmps) = true := by simp [Region.wanted, hgd]
    rw [if_pos hwant]
    cases a2 with
    | none =>
      have hrun := run_append_nothing w o.type (.slice (some ⟨b, 0, none⟩) 0 0) 0 0 _ hown.1 c2
      unfold Oper.wp
      simp [execOp, ho, resolve, invoke, builtin, hs, hx, hrun, Result.andThen]
      exact h _ _ _ ⟨hm, .inl ⟨rfl, rfl⟩⟩ (World.grownBy.refl _ _)
    | some ad =>
      obtain ⟨i0, hi, hz0, hz1, hz2⟩ := info_parts info_i64
      refine wp_append_own w s x 28 ho 0 2 i0 (.int .i64 0) 1 8 Tryz.underlying28 hi hz0 hz1 hz2 rfl (by omega) (.slice (some ⟨b, 0, none⟩) 0 0) 0 [] hs hown.1 ad 0 c2 [] hx rfl (fun j u hj => by cases hj) (fun u hu => by cases hu) (by unfold maxLen; omega) (by omega) (by omega) ?_
      intro v' w' h1 h2 _
      have hf : ∃ a1 c1, v' = .slice a1 0 c1 := by
        rcases h1.2 with ⟨e, h0⟩ | ⟨g', cap, cur, e, _⟩
        · exact ⟨none, 0, e⟩
        · exact ⟨_, _, e⟩
      obtain ⟨a1, c1, rfl⟩ := hf
      exact h a1 c1 w' ⟨hm, .inl ⟨rfl, rfl⟩⟩ h2
  · obtain ⟨b2, o2, rfl, hb2, hc⟩ := hi2.2.2.2 h0
    refine step_pushG w hgd s x 28 2 (.int .i64 0) 1 8 ho Tryz.underlying28 info_i64 rfl (by omega) 0 (some ⟨b, 0, none⟩) 0 0 [] hs hown.1 ⟨b2, o2, none⟩ m c2 (ys.map (Value.int .i64)) hx (by simp [hi2.1]) ?_ (ints_oneCell _ _) h0 (by unfold maxLen; omega) (by omega) (by omega) ?_
    · intro j u hj
      have hjl : j < ys.length := by have := (List.getElem?_eq_some_iff.1 hj).1; simpa using this
      rw [Go.WideShapes.add_plain, hc j (by have := hi2.1; omega), ← hj]
      simp [List.getD_eq_getElem?_getD, hjl]
    · intro g c1 w' r1 r2
      have hl : g = b ∨ w.heap.size ≤ g := by
        rcases r2.2 g rfl with e | e
        · exact .inl (by have e' : some b = some g := e; injection e' with e'; exact e'.symm)
        · exact .inr e
      have hK := h (some ⟨g, 0, none⟩) c1 w' ⟨hm, .inr ⟨g, rfl, ⟨by simpa using r1, hm, hi2.2.2.1⟩, hl⟩⟩ r2.1
      simpa using hK
theorem belD (w : World) : Below w.heap.size w w.drew := ⟨rfl, rfl, rfl, Nat.le_refl _, fun _ _ => rfl⟩
theorem belG {w w' w'' : World} {b : Nat} (h : Below w.heap.size w w') (hg : w'.grownBy w'' (some b)) (hb : w.heap.size ≤ b) : Below w.heap.size w w'' := h.grown hg h.size (fun k e => by injection e with e; omega)
theorem belN {w w' : World} (h : Below w.heap.size w w') : Below w.heap.size w w'.drew := ⟨h.os, h.tape, h.output, h.size, h.block⟩
theorem ownD {w : World} {b : Nat} (h : Own w 0 (some ⟨b, 0, none⟩) 0 0 []) : Own w.drew 0 (some ⟨b, 0, none⟩) 0 0 [] := h
theorem own_empty' (X : World) (b : Nat) (h : X.heap.size = b) : Own (X.alloc (.cells #[] 2)) 0 (some ⟨b, 0, none⟩) 0 0 [] := by rw [← h]; exact own_empty X 0 (Nat.zero_le _)
theorem ownK {w w' : World} {b b' : Nat} (h : Own w 0 (some ⟨b, 0, none⟩) 0 0 []) (hg : w.grownBy w' (some b')) (hne : b' ≠ b) : Own w' 0 (some ⟨b, 0, none⟩) 0 0 [] := h.keep hg (fun g hg' e => by
  have hg'' : some b = some g := hg'
  injection hg'' with hg''
  injection e with e
  omega)
/-- What the model's InputAt leaves. -/
def AtSaid (w : World) (p : Prg) (N : Int) (e : Ending) (w' : World) : Prop :=
  Below w.heap.size w w' ∧ ∃ s t : Sl, e = .returned (.tuple #[slV s, slV t, .bool (atOk p N)]) ∧ Ints w' s.1 s.2.1 (atL p N) ∧ Ints w' t.1 t.2.1 (atS p N)
theorem ints_nil (w : World) (a : Option Addr) : Ints w a 0 [] := ⟨rfl, by omega, fun z hz => (by cases hz), fun hp => absurd hp (by omega)⟩
theorem l1In_any (x lo hi : Int) (w : World) : Calls Tryz.prog 71 #[.int .i64 x, .int .i64 lo, .int .i64 hi] w fun e w' => e = .returned (.bool (decide (lo ≤ x) && decide (x ≤ hi))) ∧ w' = w := by
  obtain ⟨R, HR⟩ : ∃ R, Hid ((decide (lo ≤ x) && decide (x ≤ hi)) = R) := ⟨_, rfl⟩
  rw [HR.out]
  go_enter Tryz.func71, Tryz.ntmps71
  by_cases h1 : lo ≤ x
  · by_cases h2 : x ≤ hi
    · obtain rfl : R = true := by rw [← HR.out, decide_eq_true h1, decide_eq_true h2]; rfl
      go_wp2
      go_ret
      exact ⟨rfl, rfl⟩
    · obtain rfl : R = false := by rw [← HR.out, decide_eq_false h2, Bool.and_false]
      go_wp2
      go_ret
      exact ⟨rfl, rfl⟩
  · obtain rfl : R = false := by rw [← HR.out, decide_eq_false h1, Bool.false_and]
    go_wp2
    go_ret
    exact ⟨rfl, rfl⟩
set_option maxRecDepth 100000 in
set_option maxHeartbeats 4000000 in
theorem specInputAt_any (r : PRow) (p : Prg) (N : Int) (w : World) (h : ProgAt w r p) (_hN : In64 N) :
    Calls Tryz.prog 53 #[progV r, .int .i64 N] w (AtSaid w p N) := by
  have HC : Hid (∀ w', Below w.heap.size w w' → Calls Tryz.prog 51 #[progV r] w' fun e w'' => e = .returned (.bool (codeB p == 0)) ∧ Below w'.heap.size w' w'') := Lib.hid (fun w' hw => specProgOk_any r p w' (h.below hw))
  have HI : Hid (∀ w', Below w.heap.size w w' → Calls Tryz.prog 17 #[progV r] w' fun e w'' => e = .returned (.int .i64 (countB p)) ∧ Below w'.heap.size w' w'') := Lib.hid (fun w' hw => specInputsIn_any r p w' (h.below hw))
  have HM : Hid (codeB p = 0 → ∀ w', Below w.heap.size w w' → Calls Tryz.prog 55 #[progV r] w' (MadeInts w' (maxesP p))) := Lib.hid (fun hz w' hw => l7Maxes_any r p w' (h.below hw) (code_inputs hz).1 (code_inputs hz).2.1)
  have HN1 : Hid (r.lows.2.1 = p.lows.length) := Lib.hid h.lows.1.symm
  clear h
  obtain ⟨wd, ⟨a1, n1, c1⟩, ⟨a2, n2, c2⟩, tp, ⟨a3, n3, c3⟩, ⟨a4, n4, c4⟩, rows⟩ := r
  simp only [progV, slV] at HC HI HM HN1
  show Calls Tryz.prog 53 #[.agg #[.int .i64 wd, .slice a1 n1 c1, .slice a2 n2 c2, .int .i64 tp, .slice a3 n3 c3, .slice a4 n4 c4], .int .i64 N] w _
  obtain ⟨wa, HW⟩ : ∃ wa, Hid (wa = w.alloc (.cells #[.int .i64 wd, .slice a1 n1 c1, .slice a2 n2 c2, .int .i64 tp, .slice a3 n3 c3, .slice a4 n4 c4] 31)) := ⟨_, rfl⟩
  have B : Blk wa w.heap.size 31 [.int .i64 wd, .slice a1 n1 c1, .slice a2 n2 c2, .int .i64 tp, .slice a3 n3 c3, .slice a4 n4 c4] := by rw [HW.out]; exact Blk.new w _ _
  have HB : Below w.heap.size w wa := by rw [HW.out]; exact (Below.refl _ _).alloc (Nat.le_refl _) _
  by_cases hz : codeB p = 0
  case neg =>
    have hzz : (codeB p == 0) = false := by simpa using hz
    rw [hzz] at HC
    have hok : atOk p N = false := by simp [atOk, hz]
    have HAL : Hid (atL p N = []) := Lib.hid (by rw [atL, hok]; rfl)
    have HAS : Hid (atS p N = []) := Lib.hid (by rw [atS, hok]; rfl)
    clear hz hzz HI HM
    go_enter Tryz.func53, Tryz.ntmps53
    go_wp2_with fail
    rw [← HW.out]
    refine (HC.out _ HB).mono ?_
    rintro e w1 ⟨rfl, hb1⟩
    have HF := HB.trans (hb1.mono HB.size)
    have HF2 := Lib.hid (belA (o := .cells #[] 2) (belA (o := .cells #[] 2) HF))
    clear HF HB hb1 B HW
    go_wp2
    go_ret3
    exact ⟨HF2.out, (_, 0, 0), (_, 0, 0), by rw [hok]; rfl, by rw [HAL.out]; exact ints_nil _ _, by rw [HAS.out]; exact ints_nil _ _⟩
  case pos =>
    have hzz : (codeB p == 0) = true := by simpa using hz
    rw [hzz] at HC
    have HM := Lib.hid (HM.out hz)
    have hMX := wide_of_max hz
    have hL6 := (code_max hz).1
    have hC : countB p = prodL (maxesP p) := by rw [countB, if_pos hz, countTo_prod]
    rw [hC] at HI
    have hp1 := prodL_pos (fun m hm => (hMX m hm).1)
    have hp2 := prodL_small hMX hL6
    have hok : atOk p N = (decide (0 ≤ N) && decide (N ≤ prodL (maxesP p) - 1)) := by
      simp only [atOk, hz, decide_true, Bool.true_and]
      congr 1
      exact decide_eq_decide.2 ⟨fun h => by omega, fun h => by omega⟩
    have hnL : n1 ≤ (maxesP p).length := by rw [maxesP_len, HN1.out]; omega
    have HA : Hid (atOk p N = true → atL p N = (digs (maxesP p) N).take n1 ∧ atS p N = (digs (maxesP p) N).drop n1) := Lib.hid (fun h => by rw [atL, atS, if_pos h, if_pos h, HN1.out]; exact ⟨rfl, rfl⟩)
    have HNO : Hid (atOk p N = false → atL p N = [] ∧ atS p N = []) := Lib.hid (fun h => by rw [atL, atS, h]; exact ⟨rfl, rfl⟩)
    have HMX := Lib.hid hMX
    obtain ⟨C, HCC⟩ : ∃ C, Hid (prodL (maxesP p) = C) := ⟨_, rfl⟩
    rw [HCC.out] at HI hp1 hp2 hok
    obtain ⟨ok, HOK⟩ : ∃ ok, Hid (atOk p N = ok) := ⟨_, rfl⟩
    rw [HOK.out] at hok HA HNO
    have HL1 : Hid (∀ w' : World, Calls Tryz.prog 71 #[.int .i64 N, .int .i64 0, .int .i64 (C - 1)] w' fun e w'' => e = .returned (.bool ok) ∧ w'' = w') := Lib.hid (fun w' => by rw [hok]; exact l1In_any _ _ _ _)
    obtain ⟨ms, HMS⟩ : ∃ ms, Hid (maxesP p = ms) := ⟨_, Lib.hid rfl⟩
    rw [HMS.out] at HM HA hL6 hnL HMX HCC
    have HR : Hid (ok = true → 0 ≤ N ∧ N ≤ 281474976710656) := Lib.hid (fun h => by
      rw [h] at hok
      have := hok.symm
      simp only [Bool.and_eq_true, decide_eq_true_eq] at this
      omega)
    clear hz hzz hMX hC hok HMS HN1
    go_enter Tryz.func53, Tryz.ntmps53
    go_wp2_with fail
    rw [← HW.out]
    refine (HC.out _ HB).mono ?_
    rintro e w1 ⟨rfl, hb1⟩
    have B := B.below hb1 B.lt
    have HB := HB.trans (hb1.mono HB.size)
    have t0 := B.cell (j := 0) rfl
    have t1 := B.cell (j := 1) rfl
    have t2 := B.cell (j := 2) rfl
    have t3 := B.cell (j := 3) rfl
    have t4 := B.cell (j := 4) rfl
    have t5 := B.cell (j := 5) rfl
    clear hb1 HW
    go_wp2_with fail
    refine (HI.out _ HB).mono ?_
    rintro e w2 ⟨rfl, hb2⟩
    have B := B.below hb2 B.lt
    have HB := HB.trans (hb2.mono HB.size)
    clear hb2 t0 t1 t2 t3 t4 t5
    go_wp2_with fail
    refine (HL1.out _).mono ?_
    rintro e w3 ⟨rfl, rfl⟩
    cases ok with
    | false =>
      have HF2 := Lib.hid (belA (o := .cells #[] 2) (belA (o := .cells #[] 2) HB))
      have HNN := Lib.hid (HNO.out rfl)
      clear HB B HNO HA HR
      go_wp2
      go_ret3
      exact ⟨HF2.out, (_, 0, 0), (_, 0, 0), by rw [HOK.out]; rfl, by rw [HNN.out.1]; exact ints_nil _ _, by rw [HNN.out.2]; exact ints_nil _ _⟩
    | true =>
      obtain ⟨r0, r1⟩ := HR.out rfl
      have t0 := B.cell (j := 0) rfl
      have t1 := B.cell (j := 1) rfl
      have t2 := B.cell (j := 2) rfl
      have t3 := B.cell (j := 3) rfl
      have t4 := B.cell (j := 4) rfl
      have t5 := B.cell (j := 5) rfl
      go_wp2_with fail
      refine (HM.out _ HB).mono ?_
      rintro e w4 ⟨ma, mn, mc, rfl, hom, hb4⟩
      have hmn : mn ≤ 6 := by rw [← hom.len]; exact hL6
      have B := B.below hb4 B.lt
      have HB := HB.trans (hb4.mono HB.size)
      clear hb4 t0 t1 t2 t3 t4 t5
      go_wp2_with fail
      refine (l7At_any _ _ _ _ N _ hom.ints HMX.out r0 r1 hmn).mono ?_
      rintro e w5 ⟨g, zc, rfl, hoz, hb5⟩
      have B := B.below hb5 B.lt
      have HB := HB.trans (hb5.mono HB.size)
      have t1 := B.cell (j := 1) rfl
      have hzn : mn = ms.length := by rw [← hoz.len, digs_len]
      have hn1z : n1 ≤ mn := by omega
      subst hzn
      have hzc := hoz.cap
      have hn1c : n1 ≤ zc := by omega
      have HI1 : Hid (∀ w', Below w5.heap.size w5 w' → Ints w' (some ⟨g, 0, none⟩) n1 ((digs ms N).take n1)) := Lib.hid (fun w' hb => ((hoz.cut hn1z).below hb).ints)
      have HW5 := Lib.hid HB
      obtain ⟨A1, A2⟩ := HA.out trivial
      have HI2 : Hid (∀ w', Below w5.heap.size w5 w' → Ints w' (if zc = n1 then some ⟨g, 0, none⟩ else some ⟨g, n1, none⟩) (ms.length - n1) ((digs ms N).drop n1)) := Lib.hid (fun w' hb => ints_tail (hoz.below hb) hn1z hzc)
      clear hom hb5 hoz HB B HR HL1 HC HI HM
      go_wp2_with fail
      go_region_law (first
        | (refine step_cloneE _ (by rfl) _ _ (by rfl) _ (by rfl) (by first | (refine own_empty' _ _ ?_; simp; done) | (refine ownD (own_empty' _ _ ?_); simp; done) | (refine (own_empty' _ _ ?_).alloc _; simp; done) | (refine ownD ((own_empty' _ _ ?_).alloc _); simp; done) | (refine ownK (own_empty' _ _ ?_) y8 ?_ <;> first | (simp; done) | (simp; omega) | omega) | (refine ownK (ownD (own_empty' _ _ ?_)) y8 ?_ <;> first | (simp; done) | (simp; omega) | omega) | (refine ownK ((own_empty' _ _ ?_).alloc _) y8 ?_ <;> first | (simp; done) | (simp; omega) | omega) | (refine ownK (ownD ((own_empty' _ _ ?_).alloc _)) y8 ?_ <;> first | (simp; done) | (simp; omega) | omega) | (refine ownK (own_empty' _ _ ?_) y9 ?_ <;> first | (simp; done) | (simp; omega) | omega) | (refine ownK (ownD (own_empty' _ _ ?_)) y9 ?_ <;> first | (simp; done) | (simp; omega) | omega) | (refine ownK ((own_empty' _ _ ?_).alloc _) y9 ?_ <;> first | (simp; done) | (simp; omega) | omega) | (refine ownK (ownD ((own_empty' _ _ ?_).alloc _)) y9 ?_ <;> first | (simp; done) | (simp; omega) | omega)) (some ⟨g, 0, none⟩) n1 zc ((digs ms N).take n1) (by rfl) (HI1.out _ (by repeat' (first | exact belD _ | exact Below.refl _ _ | refine belN ?_ | refine belA ?_ | refine belG ?_ y8 ?_ | refine belG ?_ y9 ?_ | (simp; done) | (have := y8.size; simp at this ⊢; omega) | (have := y9.size; simp at this ⊢; omega)))) ?_; intro a8 c8 w8 x8 y8)
        | (refine step_cloneE _ (by rfl) _ _ (by rfl) _ (by rfl) (by first | (refine own_empty' _ _ ?_; simp; done) | (refine ownD (own_empty' _ _ ?_); simp; done) | (refine (own_empty' _ _ ?_).alloc _; simp; done) | (refine ownD ((own_empty' _ _ ?_).alloc _); simp; done) | (refine ownK (own_empty' _ _ ?_) y8 ?_ <;> first | (simp; done) | (simp; omega) | omega) | (refine ownK (ownD (own_empty' _ _ ?_)) y8 ?_ <;> first | (simp; done) | (simp; omega) | omega) | (refine ownK ((own_empty' _ _ ?_).alloc _) y8 ?_ <;> first | (simp; done) | (simp; omega) | omega) | (refine ownK (ownD ((own_empty' _ _ ?_).alloc _)) y8 ?_ <;> first | (simp; done) | (simp; omega) | omega) | (refine ownK (own_empty' _ _ ?_) y9 ?_ <;> first | (simp; done) | (simp; omega) | omega) | (refine ownK (ownD (own_empty' _ _ ?_)) y9 ?_ <;> first | (simp; done) | (simp; omega) | omega) | (refine ownK ((own_empty' _ _ ?_).alloc _) y9 ?_ <;> first | (simp; done) | (simp; omega) | omega) | (refine ownK (ownD ((own_empty' _ _ ?_).alloc _)) y9 ?_ <;> first | (simp; done) | (simp; omega) | omega)) _ (ms.length - n1) (zc - n1) ((digs ms N).drop n1) (by rfl) (HI2.out _ (by repeat' (first | exact belD _ | exact Below.refl _ _ | refine belN ?_ | refine belA ?_ | refine belG ?_ y8 ?_ | refine belG ?_ y9 ?_ | (simp; done) | (have := y8.size; simp at this ⊢; omega) | (have := y9.size; simp at this ⊢; omega)))) ?_; intro a9 c9 w9 x9 y9))
      all_goals go_wp2
      all_goals
        go_ret3
        refine ⟨HW5.out.trans (Below.mono ?hB HW5.out.size), (a8, n1, c8), (a9, ms.length - n1, c9), ?hE, ?h1, ?h2⟩
        case hE => rw [HOK.out]; rfl
        case hB => repeat' (first | exact belD _ | exact Below.refl _ _ | refine belN ?_ | refine belA ?_ | refine belG ?_ y8 ?_ | refine belG ?_ y9 ?_ | (simp; done) | (have := y8.size; simp at this ⊢; omega) | (have := y9.size; simp at this ⊢; omega))
        case h1 => rw [A1]; first | exact x8.ints | (refine (x8.other y9 ?_ ?_).ints <;> first | omega | (simp; done) | (simp; omega)) | exact (x8.below (belG (belA (Below.refl _ _)) y9 (Nat.le_refl _))).ints | exact (x8.below (belG (belN (belA (Below.refl _ _))) y9 (Nat.le_refl _))).ints
        case h2 => rw [A2]; first | exact x9.ints | (refine (x9.other y8 ?_ ?_).ints <;> first | omega | (simp; done) | (simp; omega)) | exact (x9.below (belG (belA (Below.refl _ _)) y8 (Nat.le_refl _))).ints | exact (x9.below (belG (belN (belA (Below.refl _ _))) y8 (Nat.le_refl _))).ints
end Go.Proofs.YtmooecbdpfhnlaaGreat
/- The contract of the model's l6Of. -/
namespace Go.Proofs.YtmooecbdpfhnlaaGreat
open Go.RowKit

/-- A call of l6Of under way, its boxes in wa: the environment's box. -/
structure OB (wa wi : World) (b : Nat) (er : ERow) (q : Sta) : Prop where
  out : Blk wi b 90 [slV er.vars, slV er.cells]
  mem : EnvMem wi wa.heap.size er (none, 0, 0) q
  bel : Below wa.heap.size wa wi
  kb : wa.heap.size ≤ b
section
variable {w wi wj wk : World} {b : Nat} {er : ERow} {q : Sta}
theorem OB.below (h : OB w wi b er q) (hb : Below wi.heap.size wi wj) : OB w wj b er q :=
  ⟨h.out.below hb h.out.lt, h.mem.below hb, h.bel.trans (hb.mono h.bel.size), h.kb⟩
theorem OB.alloc (h : OB w wi b er q) (o : Obj) : OB w (wi.alloc o) b er q := h.below ((Below.refl _ _).alloc (Nat.le_refl _) o)
theorem OB.row {a1 : Option Addr} {c1 : Nat} {zs : List Int} {r : Sl} (h : OB w wi b er q) (hb : Below wi.heap.size wi wj) (hr : Own wj wi.heap.size r.1 r.2.1 r.2.2 zs)
    (ho : wk.ownsRow w.heap.size 28 1 (.slice a1 (er.cells.2.1 + 1) c1) (er.cells.2.1 + 1) ((er.rows ++ [r]).map slV)) (hn : er.cells.2.1 < 1048576) (hg : wj.grownBy wk (slV er.cells).ownBlock) :
    OB w (wk.setCell ⟨b, 1, none⟩ (.slice a1 (er.cells.2.1 + 1) c1)) b ⟨er.vars, (a1, er.cells.2.1 + 1, c1), er.rows ++ [r]⟩ ⟨q.vars, q.cells ++ [zs], q.outs⟩ := by
  have kb := h.kb
  have h2 := h.below hb
  have o1 := blk_row h2.out h2.mem.cells.1 (by decide) hg
  refine ⟨o1.set (j := 1) _, (h.mem.row hb h.bel.size hr (cs' := (a1, er.cells.2.1 + 1, c1)) ho rfl hn hg).set o1 (by decide) (by decide) _, ?_, kb⟩
  exact below_set (h2.bel.grown hg h2.bel.size (fun g e => (h2.mem.cells.1.lt g e).1)) (by omega) _
end
/-- Nothing but variables. -/
theorem envMem_vars {w : World} {B : Nat} {v : Sl} {zs : List Int} (h : Own w B v.1 v.2.1 v.2.2 zs) : EnvMem w B ⟨v, (none, 0, 0), []⟩ (none, 0, 0) ⟨zs, [], []⟩ :=
  ⟨h, ⟨World.ownsRow_nil _ _ _ _, Nat.zero_le _, rfl, fun i hi => absurd hi (by simp only []; omega)⟩, own_nil _ _, fun g _ e => by simp [slV, Value.ownBlock] at e, fun i g hi => absurd hi (by simp only []; omega), fun i g hi => absurd hi (by simp only []; omega), fun i j g hi => absurd hi (by simp only []; omega)⟩
/-- An outcome is told. -/
def AnsO (w : World) (zs : List Int) (rr : Rz) (e : Ending) (w' : World) : Prop :=
  Below w.heap.size w w' ∧ ∃ os : Sl, e = .returned (.agg #[slV os, .int .i64 rr.1, .int .i64 rr.2]) ∧ Own w' w.heap.size os.1 os.2.1 os.2.2 zs
theorem belK {w w' w'' : World} {B : Nat} {row : Option Nat} (h : Below B w w') (hg : w'.grownBy w'' row) (hB : B ≤ w'.heap.size) (hr : ∀ k, row = some k → B ≤ k) : Below B w w'' := h.grown hg hB hr
theorem cell_after {w8 : World} {k j : Nat} {v : Value} (h : w8.cell? ⟨k, j, none⟩ = some v) (o : Obj) : (w8.alloc o).cell? ⟨k, j, none⟩ = some v := by
  have hk : k < w8.heap.size := by
    rcases Nat.lt_or_ge k w8.heap.size with h' | h'
    · exact h'
    · simp [World.cell?, Array.getElem?_eq_none h'] at h
  exact ((belA (Below.refl _ w8)).cell hk).trans h
theorem blk_new1 (W : World) (o : Obj) (t : TypeId) (xs : List Value) : Blk ((W.alloc o).alloc (.cells xs.toArray t)) (W.heap.size + 1) t xs := by simpa using Blk.new (W.alloc o) t xs
theorem env_after {w8 w9 W : World} {B : Nat} {a : Option Addr} {n c : Nat} {zs : List Int} {xs : List Value} (hg : W.grownBy w9 (Value.slice a n c).ownBlock) (x : Own w8 B a n c zs) (hW : Blk W w8.heap.size 90 xs) : Blk w9 w8.heap.size 90 xs :=
  blk_keep hW hg (fun e => by have := (x.block _ e).2; omega)
theorem env_kept {w9 W : World} {B eb : Nat} {a : Option Addr} {n c : Nat} {zs : List Int} {xs : List Value} (hg : W.grownBy w9 (Value.slice a n c).ownBlock) (x : Own W B a n c zs) (hW : Blk W eb 90 xs) : Blk w9 eb 90 xs :=
  blk_row hW x.1 (by decide) hg
/-- Behind the two appends: the environment's box is new, or filled now. -/
theorem ob_new {wa w9 : World} {a9 : Option Addr} {m k9 : Nat} {zs : List Int} (hb : Below wa.heap.size wa w9) (x : Own w9 wa.heap.size a9 m k9 zs) :
    OB wa (w9.alloc (.cells #[.slice a9 m k9, .slice none 0 0] 90)) w9.heap.size ⟨(a9, m, k9), (none, 0, 0), []⟩ ⟨zs, [], []⟩ :=
  ⟨Blk.new w9 _ _, (envMem_vars (v := (a9, m, k9)) x).alloc _, belA hb, hb.size⟩
theorem ob_set {wa w9 : World} {a9 : Option Addr} {m k9 eb : Nat} {zs : List Int} (hb : Below wa.heap.size wa w9) (x : Own w9 wa.heap.size a9 m k9 zs)
    (he : Blk w9 eb 90 [.slice none 0 0, .slice none 0 0]) (hw : wa.heap.size ≤ eb) :
    OB wa ((w9.setCell ⟨eb, 0, none⟩ (.slice a9 m k9)).setCell ⟨eb, 1, none⟩ (.slice none 0 0)) eb ⟨(a9, m, k9), (none, 0, 0), []⟩ ⟨zs, [], []⟩ := by
  have e1 := he.set (j := 0) (.slice a9 m k9)
  have e2 := e1.set (j := 1) (.slice none 0 0)
  exact ⟨e2, ((envMem_vars (v := (a9, m, k9)) x).set he (by decide) (by decide) _).set e1 (by decide) (by decide) _, below_set (below_set hb hw _) hw _, hw⟩
set_option maxRecDepth 100000 in
set_option maxHeartbeats 6400000 in
theorem l6Of_any (r : PRow) (p : Prg) (a : Option Addr) (n c : Nat) (ls ss : List Int) (w : World) (h : ProgAt w r p) (h1 : Ints w a n (ls ++ ss)) (h0 : startB p ls ss = true) :
    Calls Tryz.prog 113 #[progV r, .slice a n c] w (AnsO w (outR p ls ss) (endR p ls ss)) := by
  unfold outR endR
  obtain ⟨s, hs, hrun⟩ := runX_spec h0
  have hc0 := startB_ok h0
  have hst := start_ok h0
  have hlen : p.body.length = r.body.2.1 := h.body.2.1
  have HR : Hid (∀ (wb w' : World) (b : Nat) (er : ERow), Below w.heap.size w wb → SB wb w' b r er (none, 0, 0) (startQ p ls ss) (0, 0) → Calls Tryz.prog 106 #[.pointer (some ⟨b, 0, none⟩), .int .i64 0, .int .i64 (r.body.2.1 : Int)] w' fun e w'' => e = .returned (.tuple #[]) ∧ ∃ os', SB wb w'' b r er os' (runX p ls ss).1 (runX p ls ss).2) := Lib.hid (fun wb w' b er hbw hsb => by
    rw [← hlen]
    exact srun_all p r er b wb hc0 (h.below hbw) p.body.length 0 (by omega) p.body.length s w' (none, 0, 0) (startQ p ls ss) _ _ (Nat.le_refl _) hsb hst (by simp [startQ]; omega) hrun)
  have hhd := code_head hc0
  have HAZ : Hid (∀ k, k < p.arrays.length → 1 ≤ p.arrays.getD k 0 ∧ p.arrays.getD k 0 ≤ 6) := Lib.hid (fun k hk => by
    have hrm := (code_parts hc0).2
    simp only [roomB, Bool.and_eq_true, decide_eq_true_eq, List.all_eq_true] at hrm
    exact hrm.2 _ (getD_mem hk))
  obtain ⟨T, hT⟩ : ∃ T : Nat, p.temps = (T : Int) := ⟨p.temps.toNat, by omega⟩
  have hT6 : T ≤ 6 := by omega
  have HTP : Hid (r.temps = (T : Int)) := Lib.hid (by rw [← hT]; exact h.temps)
  have HAR := Lib.hid h.arrays
  have HAL := Lib.hid h.arrays.1
  have hal2 : p.arrays.length ≤ 2 := by omega
  have HQS : Hid (∀ k, k = p.arrays.length → startQ p ls ss = ⟨ls ++ ss ++ List.replicate T 0, zeroTo p k, []⟩) := Lib.hid (fun k hk => by rw [zeroTo_all hk.symm, startQ, hT]; rfl)
  obtain ⟨q0, HQ0⟩ : ∃ q, Hid (startQ p ls ss = q) := ⟨_, Lib.hid rfl⟩
  obtain ⟨Q, HQ⟩ : ∃ Q, Hid (runX p ls ss = Q) := ⟨_, Lib.hid rfl⟩
  rw [HQ0.out] at HR HQS
  rw [HQ.out] at HR ⊢
  obtain ⟨Q1, en, co⟩ := Q
  have HMK := Lib.hid (fun (M : Nat) (hM : M ≤ 6) (w : World) => make_row M (by omega) w)
  have hin6 : n ≤ 1000 := by
    have l1 : (ls ++ ss).length = n := h1.1
    have hb := h0
    simp only [startB, Bool.and_eq_true] at hb
    have := (areB_ok hb.2.1).1
    have := (areB_ok hb.2.2).1
    rw [List.length_append] at l1
    omega
  have HI := Lib.hid h1
  clear h h1 h0 hrun hc0 hst hhd hs hlen hT HQ HQ0
  obtain ⟨zs, HZS⟩ : ∃ zs, Hid (ls ++ ss = zs) := ⟨_, Lib.hid rfl⟩
  rw [HZS.out] at HI HQS
  obtain ⟨wd, ⟨a1, n1, c1⟩, ⟨a2, n2, c2⟩, tp, ⟨a3, n3, c3⟩, ⟨a4, n4, c4⟩, rows⟩ := r
  simp only [] at HR HTP HAR HAL
  obtain rfl := HTP.out
  show Calls Tryz.prog 113 #[.agg #[.int .i64 wd, .slice a1 n1 c1, .slice a2 n2 c2, .int .i64 (T : Int), .slice a3 n3 c3, .slice a4 n4 c4], .slice a n c] w _
  obtain ⟨wa, HW⟩ : ∃ wa, Hid (wa = (w.alloc (.cells #[.int .i64 wd, .slice a1 n1 c1, .slice a2 n2 c2, .int .i64 (T : Int), .slice a3 n3 c3, .slice a4 n4 c4] 31)).alloc (.cells #[.slice none 0 0, .int .i64 0, .int .i64 0] 43)) := ⟨_, rfl⟩
  have NX : TwoB w wa 31 [.int .i64 wd, .slice a1 n1 c1, .slice a2 n2 c2, .int .i64 (T : Int), .slice a3 n3 c3, .slice a4 n4 c4] 43 [.slice none 0 0, .int .i64 0, .int .i64 0] := by rw [HW.out]; exact twob_new w _ _ _ _
  have HNX := Lib.hid NX
  have HI2 : Hid (∀ w', Below wa.heap.size wa w' → Ints w' a n zs) := Lib.hid (fun w' hb => (HI.out.below NX.bel).below hb)
  have HLT : Hid (w.heap.size + 2 ≤ wa.heap.size) := Lib.hid NX.lt
  have t3 := NX.arg.cell (j := 3) rfl
  clear NX HI
  go_enter Tryz.func113, Tryz.ntmps113
  go_upto_region 1 with fail
  rw [← HW.out]
  clear HW
  go_cut [5] (fun t5 wx => ∃ (eb : Nat) (va : Option Addr) (vc : Nat), t5 = .pointer (some ⟨eb, 0, none⟩) ∧ OB wa wx eb ⟨(va, n + T, vc), (none, 0, 0), []⟩ ⟨zs ++ List.replicate T 0, [], []⟩)
  case first =>
    have c3 := cell_after t3 (.cells #[] 2)
    have c4 := cell_after t3 (.cells #[.slice none 0 0, .slice none 0 0] 90)
    have c5 := cell_after c3 (.cells #[.slice none 0 0, .slice none 0 0] 90)
    have c6 := cell_after c4 (.cells #[] 2)
    go_region_law (first
      | (refine step_ints _ (by rfl) _ _ (by rfl) wa.heap.size _ 0 0 [] (by rfl) (by have := HLT.out; first | exact own_emptyB _ _ _ rfl (by omega) | exact own_drew (own_emptyB _ _ _ rfl (by omega)) | exact (own_emptyB _ _ _ rfl (by omega)).alloc _ | exact own_drew ((own_emptyB _ _ _ rfl (by omega)).alloc _) | exact own_emptyB _ _ _ (by simp) (by omega) | exact own_drew (own_emptyB _ _ _ (by simp) (by omega))) _ n c zs (by rfl) (HI2.out _ (by repeat' (first | exact Below.refl _ _ | refine belA ?_ | refine belN ?_))) (by omega) (by first | (simp; done) | (simp; omega)) ?_; intro a8 k8 w8 x8 y8; have x8 := own_zero x8
         have z8 : w8.cell? ⟨w.heap.size, 3, none⟩ = some (.int .i64 (T : Int)) := y8.cell (by first | exact cell_after t3 _ | exact cell_after (cell_after t3 _) _) (by have := HLT.out; simp [Value.ownBlock]; omega)
         have z8b := cell_after z8 (.cells #[.slice none 0 0, .slice none 0 0] 90)
         have hb8 : Below wa.heap.size wa w8 := belK (by repeat' (first | exact Below.refl _ _ | refine belA ?_ | refine belN ?_)) y8 (by first | (simp; done) | (simp; omega)) (by simp [Value.ownBlock])
         try (have b8 := blk_keep (b := wa.heap.size + 1) (t := 90) (xs := [.slice none 0 0, .slice none 0 0]) (by exact blk_new1 wa _ _ _) y8 (by simp [Value.ownBlock]))
         try (have b8 := blk_keep (b := wa.heap.size) (t := 90) (xs := [.slice none 0 0, .slice none 0 0]) (by exact (Blk.new wa _ _).alloc _) y8 (by simp [Value.ownBlock])))
      | (refine step_zeros _ (by rfl) _ _ (by rfl) wa.heap.size _ _ _ _ (by rfl) (by first | exact x8 | exact own_drew x8 | exact x8.alloc _ | exact own_drew (x8.alloc _)) T (by rfl) (by omega) (by have := hb8.size; have := HLT.out; first | omega | (simp at this ⊢; omega) | (simp; omega)) ?_; intro a9 k9 w9 x9 y9
         have hb9 : Below wa.heap.size wa w9 := belK (by first | exact hb8 | exact belN hb8 | exact belA hb8 | exact belN (belA hb8)) y9 (by have := hb8.size; first | omega | (simp; omega)) (fun g e => (x8.block g e).1)
         try (have bx := env_after y9 x8 (by exact Blk.new w8 _ _); have e0 := bx.cell (j := 0) rfl; have e1 := bx.cell (j := 1) rfl; have f0 := bx.frozen 0; have f1 := bx.frozen 1)
         try (have bx := env_kept y9 x8 b8; have e0 := bx.cell (j := 0) rfl; have e1 := bx.cell (j := 1) rfl; have f0 := bx.frozen 0; have f1 := bx.frozen 1)))
    all_goals
      go_wp2_with fail
      go_meet
      first
        | exact ⟨_, _, _, rfl, ob_new hb9 x9⟩
        | exact ⟨_, _, _, rfl, ob_set hb9 x9 bx (by first | omega | (have := hb8.size; omega))⟩
  case rest =>
    obtain ⟨eb, va, vc, rfl, HQ⟩ := hcut
    have HARA : Hid (Ints wa a3 n3 p.arrays) := Lib.hid (HAR.out.below HNX.out.bel)
    clear t3 HI2
    have hn5 : n3 ≤ 2 := by have := HAL.out; omega
    obtain ⟨vn, HVN⟩ : ∃ vn, Hid (n + T = vn) := ⟨_, rfl⟩
    rw [HVN.out] at HQ
    have HREL : Hid (∃ (ca : Option Addr) (cc : Nat) (rws : List Sl), OB wa wc eb ⟨(va, vn, vc), (ca, 0, cc), rws⟩ ⟨zs ++ List.replicate T 0, zeroTo p 0, []⟩) := Lib.hid ⟨_, _, _, HQ⟩
    clear HQ HVN
    go_wp2_with fail
    go_loopw [6] (fun i wr => ∃ (k : Nat) (ca : Option Addr) (cc : Nat) (rws : List Sl), k ≤ n3 ∧ i = .int .i64 (k : Int) ∧ OB wa wr eb ⟨(va, vn, vc), (ca, k, cc), rws⟩ ⟨zs ++ List.replicate T 0, zeroTo p k, []⟩) (fun i _ => n3 - (intOf i).toNat)
    case atStart => obtain ⟨ca, cc, rws, hq⟩ := HREL.out; exact ⟨0, ca, cc, rws, Nat.zero_le _, rfl, hq⟩
    case round =>
      clear HREL
      obtain ⟨k, ca, cc, rws, hk, rfl, HQ⟩ := hrel
      have hnx := HNX.out.below (show Below wa.heap.size wa wr from HQ.bel)
      have g4 := hnx.arg.cell (j := 4) rfl
      by_cases hlt : k < n3
      · obtain ⟨b3, o3, z, rfl, hb3, hz3, hin3, hc3⟩ := (HARA.out.below HQ.bel).at_ hlt
        obtain ⟨z1, z2⟩ := HAZ.out k (by rw [HAL.out]; exact hlt)
        rw [← hz3.out] at z1 z2
        obtain ⟨M, rfl⟩ : ∃ M : Nat, z = (M : Int) := ⟨z.toNat, by omega⟩
        have hM6 : M ≤ 6 := by omega
        have HZ := Lib.hid (zeroTo_succ (by rw [HAL.out]; exact hlt) hz3)
        have hmk2 := HMK.out M hM6
        have hd : Below wr.heap.size wr wr.drew := ⟨rfl, rfl, rfl, Nat.le_refl _, fun _ _ => rfl⟩
        have HG0 := Lib.hid (HQ.below hd)
        have u1 := HQ.out.cell (j := 1) rfl
        have uf := HQ.out.frozen 1
        have v1 := (HQ.alloc (.cells (madeCells #[.int .i64 0] M) 2)).out.cell (j := 1) rfl
        have v2 := ((HQ.alloc (.cells (madeCells #[.int .i64 0] M) 2)).alloc (.cells #[.slice (some ⟨wr.heap.size, 0, none⟩) M M] 28)).out.cell (j := 1) rfl
        simp only [slV] at u1 v1 v2
        clear HQ hz3 z1 z2 hin3 hd hnx
        go_wp2_with fail
        go_region_law (refine step_pushR _ (by rfl) _ _ (by rfl) wa.heap.size ca k cc rws (by rfl) (by exact (HG0.out.mem.cells.1.alloc _).alloc _) (wr.heap.size + 1) (some ⟨wr.heap.size, 0, none⟩, M, M) (by rfl) (by simp [slV]) (by omega) (by have := HG0.out.bel.size; simp at this ⊢; omega) ?_; intro a9 c9 w9 ho9 hg9; have Q1 := HG0.out.row (wj := (wr.drew.alloc (.cells (madeCells #[.int .i64 0] M) 2)).alloc (.cells #[.slice (some ⟨wr.heap.size, 0, none⟩) M M] 28)) (((Below.refl _ _).alloc (Nat.le_refl _) _).alloc (by simp) _) (r := (some ⟨wr.heap.size, 0, none⟩, M, M)) ((own_made wr.drew M (by omega)).alloc _) ho9 (by simp only []; omega) hg9.1; have y0 := (blk_row ((HG0.out.alloc _).alloc _).out ((HG0.out.alloc _).alloc _).mem.cells.1 (by decide) hg9.1).cell (j := 1) rfl; have yf := (blk_row ((HG0.out.alloc _).alloc _).out ((HG0.out.alloc _).alloc _).mem.cells.1 (by decide) hg9.1).frozen 1; simp only [slV] at y0)
        all_goals
          have HQ1 : Hid (OB wa (w9.setCell ⟨eb, 1, none⟩ (.slice a9 (k + 1) c9)) eb ⟨(va, vn, vc), (a9, k + 1, c9), rws ++ [(some ⟨wr.heap.size, 0, none⟩, M, M)]⟩ ⟨zs ++ List.replicate T 0, zeroTo p (k + 1), []⟩) := Lib.hid (by rw [HZ.out, Int.toNat_natCast]; exact Q1)
          clear Q1 y0 yf ho9 hg9 u1 v1 v2 uf HG0 hmk2 hc3 g4
          go_wp2
          go_roundw
          case rel => exact ⟨k + 1, a9, c9, _, by omega, by go_num, HQ1.out⟩
          case measure => simp [intOf]; omega
      · obtain rfl : n3 = k := by omega
        have hqs := HQS.out n3 HAL.out.symm
        rw [← hqs] at HQ
        have e0 := HQ.out.cell (j := 0) rfl
        have e1 := HQ.out.cell (j := 1) rfl
        have p0 := hnx.arg.cell (j := 0) rfl
        have p1 := hnx.arg.cell (j := 1) rfl
        have p2 := hnx.arg.cell (j := 2) rfl
        have p3 := hnx.arg.cell (j := 3) rfl
        have p5 := hnx.arg.cell (j := 5) rfl
        simp only [slV] at e0 e1
        obtain ⟨wy, HWY⟩ : ∃ wy, Hid (wy = wr.alloc (.cells #[.int .i64 wd, .slice a1 n1 c1, .slice a2 n2 c2, .int .i64 (T : Int), .slice a3 n3 c3, .slice a4 n4 c4, .slice va vn vc, .slice ca n3 cc, .slice none 0 0, .int .i64 0, .int .i64 0, .bool false] 109)) := ⟨_, rfl⟩
        have HQY : OB wa wy eb ⟨(va, vn, vc), (ca, n3, cc), rws⟩ q0 := by rw [HWY.out]; exact HQ.alloc _
        have SX : SB wa wy wr.heap.size ⟨wd, (a1, n1, c1), (a2, n2, c2), (T : Int), (a3, n3, c3), (a4, n4, c4), rows⟩ ⟨(va, vn, vc), (ca, n3, cc), rws⟩ (none, 0, 0) q0 (0, 0) := ⟨HQY.bel, HQ.bel.size, by rw [HWY.out]; exact Blk.new wr _ _, HQY.mem⟩
        have HRC := Lib.hid (HR.out wa wy wr.heap.size _ HNX.out.bel SX)
        have p6 := (HNX.out.below (show Below wa.heap.size wa wy from HQY.bel)).arg.cell (j := 5) rfl
        rw [HWY.out] at p6
        clear SX hqs hnx HQ HQY
        go_wp2_with fail
        rw [← HWY.out]
        refine HRC.out.mono ?_
        rintro e w2 ⟨rfl, ⟨oa, on, oc⟩, hr⟩
        have N1 := HNX.out.below (show Below wa.heap.size wa w2 from hr.bel)
        have hlt1 := HNX.out.lt
        have k8 := hr.box.cell (j := 8) rfl
        have k9 := hr.box.cell (j := 9) rfl
        have k10 := hr.box.cell (j := 10) rfl
        simp only [slV] at k8
        have q0 := N1.res.cell (j := 0) rfl
        have q1 := N1.res.cell (j := 1) rfl
        have q2 := N1.res.cell (j := 2) rfl
        have f0 := N1.res.frozen 0
        have f1 := N1.res.frozen 1
        have f2 := N1.res.frozen 2
        have N3 := (((N1.res.set (j := 0) (.slice oa on oc)).set (j := 1) (.int .i64 en)).set (j := 2) (.int .i64 co))
        have d0 := N3.cell (j := 0) rfl
        have d1 := N3.cell (j := 1) rfl
        have d2 := N3.cell (j := 2) rfl
        have HF := Lib.hid (below_set3 N1.bel (.slice oa on oc) (.int .i64 en) (.int .i64 co))
        have HO := Lib.hid ((((hr.mem.outs.set (j := 0) hlt1 (.slice oa on oc)).set (j := 1) hlt1 (.int .i64 en)).set (j := 2) hlt1 (.int .i64 co)).base HNX.out.bel.size)
        clear N1 N3 hr HRC e0 e1 p0 p1 p2 p3 p5 p6 g4 HWY
        go_wp2
        refine bodyPost_ret (v := .agg #[.slice oa on oc, .int .i64 en, .int .i64 co]) (by simp [results, Tryz.results113, go_sem, d0, d1, d2]) rfl ?_
        exact ⟨HF.out, (oa, on, oc), rfl, HO.out⟩
end Go.Proofs.YtmooecbdpfhnlaaGreat
/- The answers of InputAt, as a law asks for them. -/
namespace Go.Proofs.YtmooecbdpfhnlaaGreat
open Go.RowKit

theorem atL_len (p : Prg) (N : Int) : (atL p N).length ≤ 1000 := by
  rw [atL]
  split
  · rename_i h
    have hz : codeB p = 0 := by simp [atOk] at h; exact h.1
    have := (code_max hz).1
    rw [List.length_take, digs_len]; omega
  · simp
theorem atS_len (p : Prg) (N : Int) : (atS p N).length ≤ 1000 := by
  rw [atS]
  split
  · rename_i h
    have hz : codeB p = 0 := by simp [atOk] at h; exact h.1
    have := (code_max hz).1
    rw [List.length_drop, digs_len]; omega
  · simp
theorem specInputAt_ans (r : PRow) (p : Prg) (N : Int) (w : World) (h : ProgAt w r p) (hN : In64 N) :
    Calls Tryz.prog 53 #[progV r, .int .i64 N] w fun e w' => Below w.heap.size w w' ∧ ∃ s t : Sl, e = .returned (.tuple #[slV s, slV t, .bool (atOk p N)]) ∧ Ints w' s.1 s.2.1 (atL p N) ∧ Ints w' t.1 t.2.1 (atS p N) := specInputAt_any r p N w h hN
theorem markInt64S_part (s : Sl) (zs : List Int) (k : Nat) (w : World) (B : Nat) (h : Own w B s.1 s.2.1 s.2.2 zs) (hk : k ≤ 100000) :
    Calls Tryz.prog 41 #[slV s, .int .i64 (k : Int)] w fun e w' => e = .returned (.int .i64 ((k + zs.length : Nat) : Int)) ∧ Own w' B s.1 s.2.1 s.2.2 (marks k zs.length) ∧ w.grownBy w' (slV s).ownBlock := by
  rw [h.len]
  exact markInt64S_w s.1 s.2.1 s.2.2 zs k w B h (by omega)
theorem heldInt64S_part (s : Sl) (zs : List Int) (k : Nat) (w : World) (B : Nat) (h : Own w B s.1 s.2.1 s.2.2 (marks k zs.length)) (hk : k ≤ 100000) :
    Calls Tryz.prog 92 #[slV s, .int .i64 (k : Int)] w fun e w' => e = .returned (.int .i64 ((k + zs.length : Nat) : Int)) ∧ Below w.heap.size w w' := by
  have hl : zs.length = s.2.1 := by have := h.len; rwa [marks_len] at this
  rw [hl] at h ⊢
  exact (heldInt64S_any s.1 s.2.1 s.2.2 k w h.ints (by omega)).mono (fun e w' ⟨h1, h2⟩ => ⟨h1, by rw [← h2]; exact Below.refl _ _⟩)
end Go.Proofs.YtmooecbdpfhnlaaGreat
/- The number of an input leads back to it: plain mathematics. -/
namespace Go.Proofs.YtmooecbdpfhnlaaGreat
open Go.RowKit

theorem numFrom_cons (m z : Int) (ms zs : List Int) : ∀ k, k ≤ ms.length → numFrom (m :: ms) (z :: zs) k = numFrom ms zs k
  | 0, _ => rfl
  | k + 1, h => by
    rw [numFrom, numFrom, numFrom_cons m z ms zs k (by omega), List.length_cons, show ms.length + 1 - 1 - k = (ms.length - 1 - k) + 1 by omega, List.getD_cons_succ, List.getD_cons_succ]
theorem numFrom_digs : ∀ {ms : List Int}, (∀ m ∈ ms, 0 ≤ m) → ∀ {n : Int}, 0 ≤ n → n < prodL ms → numFrom ms (digs ms n) ms.length = n
  | [], _, n, h0, h1 => by
    simp only [prodL] at h1
    simp only [numFrom, List.length_nil]
    omega
  | m :: ms, h, n, h0, h1 => by
    have hm := h m (List.mem_cons_self)
    have hms := fun x hx => h x (List.mem_cons_of_mem _ hx)
    have e0 := Int.emod_add_mul_ediv n (m + 1)
    have q0 := Int.ediv_nonneg h0 (show 0 ≤ m + 1 by omega)
    have z0 := Int.emod_nonneg n (show m + 1 ≠ 0 by omega)
    rw [prodL] at h1
    have hqP : n / (m + 1) < prodL ms := by
      refine Int.lt_of_not_ge fun hge => ?_
      have : (m + 1) * prodL ms ≤ (m + 1) * (n / (m + 1)) := Int.mul_le_mul_of_nonneg_left hge (by omega)
      omega
    have ih := numFrom_digs hms q0 hqP
    rw [digs, List.length_cons, numFrom, numFrom_cons m _ ms _ _ (Nat.le_refl _), ih, List.length_cons, show ms.length + 1 - 1 - ms.length = 0 by omega]
    simp only [List.getD_cons_zero]
    rw [Int.mul_comm]
    omega
theorem at_app {p : Prg} {N : Int} (h : atOk p N = true) : atL p N ++ atS p N = digs (maxesP p) N := by
  rw [atL, atS, if_pos h, if_pos h, List.take_append_drop]
theorem digs_le : ∀ {ms : List Int}, (∀ m ∈ ms, 0 ≤ m) → ∀ (n : Int) (i : Nat), i < ms.length → 0 ≤ (digs ms n).getD i 0 ∧ (digs ms n).getD i 0 ≤ ms.getD i 0
  | [], _, _, i, hi => absurd hi (by simp)
  | m :: ms, h, n, 0, _ => by
    have hm := h m (List.mem_cons_self)
    have h1 := Int.emod_nonneg n (show m + 1 ≠ 0 by omega)
    have h2 := Int.emod_lt_of_pos n (show 0 < m + 1 by omega)
    rw [digs, List.getD_cons_zero, List.getD_cons_zero]
    omega
  | m :: ms, h, n, i + 1, hi => by
    rw [digs, List.getD_cons_succ, List.getD_cons_succ]
    exact digs_le (fun x hx => h x (List.mem_cons_of_mem _ hx)) _ i (by simpa using hi)
/-- There is a start at each input. -/
theorem at_start {p : Prg} {N : Int} (h : atOk p N = true) : startB p (atL p N) (atS p N) = true := by
  have hz : codeB p = 0 := by simp [atOk] at h; exact h.1
  have hw := wide_of_max hz
  have hle := digs_le (fun m hm => (hw m hm).1) N
  have hlen : (maxesP p).length = p.lows.length + p.secrets.length := maxesP_len p
  have hdl := digs_len (maxesP p) N
  have e1 : (codeB p == 0) = true := by simpa using hz
  rw [startB, e1, Bool.true_and]
  have hL : atL p N = (digs (maxesP p) N).take p.lows.length := by rw [atL, if_pos h]
  have hS : atS p N = (digs (maxesP p) N).drop p.lows.length := by rw [atS, if_pos h]
  have l1 : (atL p N).length = p.lows.length := by rw [hL, List.length_take]; omega
  have l2 : (atS p N).length = p.secrets.length := by rw [hS, List.length_drop]; omega
  have a1 : areB p.lows (atL p N) = true := areB_all l1 (fun i hi => by
    have hi' : i < p.lows.length := by omega
    have := hle i (by omega)
    rw [maxesP, maxesL_getD (by rw [List.length_append]; omega), tmAt_app_left hi'] at this
    rw [hL]
    simpa [List.getD_eq_getElem?_getD, List.getElem?_take, hi', maxesP] using this)
  have a2 : areB p.secrets (atS p N) = true := areB_all l2 (fun i hi => by
    have hi' : i < p.secrets.length := by omega
    have := hle (p.lows.length + i) (by omega)
    rw [maxesP, maxesL_getD (by rw [List.length_append]; omega), tmAt_app_right] at this
    rw [hS]
    simpa [List.getD_eq_getElem?_getD, List.getElem?_drop, maxesP] using this)
  rw [a1, a2]; rfl
/-- The number of an input leads back to it. -/
theorem num_at {p : Prg} {N : Int} (h : atOk p N = true) : numB p (atL p N) (atS p N) = N := by
  have hz : codeB p = 0 := by simp [atOk] at h; exact h.1
  have hN : 0 ≤ N ∧ N < prodL (maxesP p) := by simp [atOk] at h; exact h.2
  rw [numB, if_pos (at_start h), at_app h]
  exact numFrom_digs (fun m hm => (wide_of_max hz m hm).1) hN.1 hN.2
end Go.Proofs.YtmooecbdpfhnlaaGreat
/- The contract of the model's l8Table: all inputs and their outcomes, by number. -/
namespace Go.Proofs.YtmooecbdpfhnlaaGreat
open Go.RowKit

/-- The outcome of the input of a number. -/
noncomputable def ocAt (p : Prg) (i : Nat) : Oc := (outR p (atL p (i : Int)) (atS p (i : Int)), endR p (atL p (i : Int)) (atS p (i : Int)))
noncomputable def tabIn (p : Prg) (k : Nat) : List (List Int) := (List.range k).map (fun i : Nat => digs (maxesP p) (i : Int))
noncomputable def tabOut (p : Prg) (k : Nat) : List Oc := (List.range k).map (ocAt p)
theorem tabIn_succ (p : Prg) (k : Nat) : tabIn p (k + 1) = tabIn p k ++ [digs (maxesP p) (k : Int)] := by simp [tabIn, List.range_succ]
theorem tabOut_succ (p : Prg) (k : Nat) : tabOut p (k + 1) = tabOut p k ++ [ocAt p k] := by simp [tabOut, List.range_succ]
theorem tabIn_at {p : Prg} {k i : Nat} (h : i < k) : intsAt (tabIn p k) i = digs (maxesP p) (i : Int) := by simp [intsAt, tabIn, List.getD_eq_getElem?_getD, h]
theorem tabOut_at {p : Prg} {k i : Nat} (h : i < k) : oAt (tabOut p k) i = ocAt p i := by simp [oAt, tabOut, List.getD_eq_getElem?_getD, h]
section
variable {w w' : World} {B E : Nat} {a : Option Addr} {n c : Nat} {rs : List OcR} {os : List Oc} {row : Option Nat}
theorem OwnO.keep (h : OwnO w B E a n c rs os) (hg : w.grownBy w' row) (ho : ∀ g, (Value.slice a n c).ownBlock = some g → row ≠ some g) (hv : ∀ i g, i < n → (slV (rAt rs i).vals).ownBlock = some g → row ≠ some g) : OwnO w' B E a n c rs os := by
  refine ⟨h.1.kept hg ?_, h.2.1, h.2.2.1, fun i hi => ⟨(h.2.2.2 i hi).1, (h.2.2.2 i hi).2.1, (h.2.2.2 i hi).2.2.1, (h.2.2.2 i hi).2.2.2.1, (h.2.2.2 i hi).2.2.2.2.keep hg (hv i · hi)⟩⟩
  cases he : (Value.slice a n c).ownBlock with
  | none => exact .inl rfl
  | some g => exact .inr fun e => ho g he e.symm
/-- A row of another kind turns. -/
theorem OwnO.kinds {B' e size m : Nat} {v : Value} {xs : List Value} (h : OwnO w B E a n c rs os) (hr : w.ownsRow B' e size v m xs) (h1 : 43 ≠ e) (h2 : 2 ≠ e) (hg : w.grownBy w' v.ownBlock) : OwnO w' B E a n c rs os :=
  h.keep hg (fun _ e => own_kinds h.1 hr h1 e) (fun i _ hi e => own_kinds (h.2.2.2 i hi).2.2.2.2.1 hr h2 e)
theorem OwnIS.kinds {B' e size m : Nat} {v : Value} {xs : List Value} {rs : List Sl} {css : List (List Int)} (h : OwnIS w B a n c rs css) (hr : w.ownsRow B' e size v m xs) (h1 : 28 ≠ e) (h2 : 2 ≠ e) (hg : w.grownBy w' v.ownBlock) : OwnIS w' B a n c rs css :=
  h.keep hg (fun _ e => own_kinds h.1 hr h1 e) (fun i _ hi e => own_kinds (h.2.2.2 i hi).1 hr h2 e)
theorem OwnIS.base {B' : Nat} {rs : List Sl} {css : List (List Int)} (h : OwnIS w B a n c rs css) (hB : B' ≤ B) : OwnIS w B' a n c rs css := by
  refine ⟨⟨h.1.1, ?_⟩, h.2.1, h.2.2.1, fun i hi => (h.2.2.2 i hi).base hB⟩
  rcases h.1.2 with hn | ⟨g, cap, cur, e, hb, r⟩
  · exact .inl hn
  · exact .inr ⟨g, cap, cur, e, by omega, r⟩
theorem OwnIS.snoc {r : Sl} {zs : List Int} {a1 : Option Addr} {c1 : Nat} {rs : List Sl} {css : List (List Int)} (h : OwnIS w B a n c rs css) (hr : Own w B r.1 r.2.1 r.2.2 zs) (hn : n < 1048576) (h1 : w'.ownsRow B 28 1 (.slice a1 (n + 1) c1) (n + 1) ((rs ++ [r]).map slV)) (hg : w.grownBy w' (Value.slice a n c).ownBlock) : OwnIS w' B a1 (n + 1) c1 (rs ++ [r]) (css ++ [zs]) := by
  have hlr := h.len
  have hls := h.2.2.1
  refine ⟨h1, by omega, by simp [hls], fun i hi => ?_⟩
  rcases Nat.lt_or_ge i n with hlt | hge
  · rw [show slAt (rs ++ [r]) i = slAt rs i from getD_left _ _ _ _ (by omega), show intsAt (css ++ [zs]) i = intsAt css i from getD_left _ _ _ _ (by omega)]
    exact (h.2.2.2 i hlt).keep hg (fun g e => own_kinds (h.2.2.2 i hlt).1 h.1 (by decide) e)
  · obtain rfl : i = n := by omega
    rw [show slAt (rs ++ [r]) i = r from getD_last _ _ _ _ (by omega), show intsAt (css ++ [zs]) i = zs from getD_last _ _ _ _ (by omega)]
    exact hr.keep hg (fun g e => own_kinds hr.1 h.1 (by decide) e)
end
theorem ownIS_empty (w : World) (B : Nat) (hB : B ≤ w.heap.size) : OwnIS (w.alloc (.cells #[] 28)) B (some ⟨w.heap.size, 0, none⟩) 0 0 [] [] :=
  ⟨World.ownsRow_lit w #[] 0 hB (by unfold maxLen; omega) rfl, by omega, rfl, fun i hi => absurd hi (by omega)⟩
theorem OwnIS.alloc {w : World} {B : Nat} {a : Option Addr} {n c : Nat} {rs : List Sl} {css : List (List Int)} (h : OwnIS w B a n c rs css) (o : Obj) : OwnIS (w.alloc o) B a n c rs css := h.below ((Below.refl _ _).alloc (Nat.le_refl _) o)
/-- 'append(in, a)'. -/
theorem wpList_pushIS {ops : Array Oper} {rest : List Oper} {o : Oper} {ac : Act} {Q : Exit → Act → World → Prop} (w : World) (hgd : o.guard = none) (s x : Operand)
    (ho : o.op = .call { callee := .builtin .append, args := #[s, x], argTypes := #[88, 88] })
    (B : Nat) (a : Option Addr) (n c : Nat) (rs : List Sl) (css : List (List Int)) (hs : ac.eval s = .slice a n c) (hown : OwnIS w B a n c rs css)
    (g : Nat) (r : Sl) (zs : List Int) (hx : ac.eval x = .slice (some ⟨g, 0, none⟩) 1 1) (hc1 : w.cell? ⟨g, 0, none⟩ = some (slV r)) (hr : Own w B r.1 r.2.1 r.2.2 zs) (hn : n < 1048576) (hB : B ≤ w.heap.size)
    (h : ∀ a1 c1 w', OwnIS w' B a1 (n + 1) c1 (rs ++ [r]) (css ++ [zs]) → GrowsTo w (.slice a n c) w' (.slice a1 (n + 1) c1) → wpList Tryz.prog ops Q rest (ac.put o.dst (.slice a1 (n + 1) c1)) w') : wpList Tryz.prog ops Q (o :: rest) ac w := by
  refine wpList_pushG w hgd s x 88 28 (.slice none 0 0) 1 24 ho Tryz.underlying88 info_ints rfl (by omega) B a n c (rs.map slV) hs hown.1 ⟨g, 0, none⟩ 1 1 [slV r] hx rfl ?_ ?_ (by unfold maxLen; omega) (by omega) hB ?_
  · intro j u hj
    match j, hj with
    | 0, hj => simp at hj; subst hj; simpa [Addr.add] using hc1
  · intro u hu; simp at hu; subst hu; rfl
  · intro a1 c1 w' r1 r2
    exact h a1 c1 w' (hown.snoc hr hn (by rw [List.map_append]; exact r1) r2.1) r2
/-- What l8Table leaves: C inputs, C outcomes. -/
def Tabled (w : World) (p : Prg) (C : Nat) (e : Ending) (w' : World) : Prop :=
  Below w.heap.size w w' ∧ ∃ (ia oa : Option Addr) (ic oc : Nat) (irs : List Sl) (ors : List OcR), e = .returned (.tuple #[.slice ia C ic, .slice oa C oc]) ∧ OwnIS w' w.heap.size ia C ic irs (tabIn p C) ∧ OwnO w' w.heap.size w.heap.size oa C oc ors (tabOut p C)
theorem maxOk_of {p : Prg} (h : codeB p = 0) : MaxOk (maxesP p) := code_max h
def SmallR (r : Rz) : Prop := (0 ≤ r.1 ∧ r.1 ≤ 2) ∧ (0 ≤ r.2 ∧ r.2 ≤ 9)
theorem small_trap {S : Nat} {q : Sta} {ts : List Tm} (h : trS S q ts ≠ 0) : SmallR (2, trS S q ts) := by
  rcases trS_of h with e | e <;> rw [e] <;> exact ⟨⟨by decide, by decide⟩, ⟨by decide, by decide⟩⟩
theorem small_zero : SmallR (0, 0) := ⟨⟨by decide, by decide⟩, ⟨by decide, by decide⟩⟩
theorem Basic.small {p : Prg} {S : Nat} {s : Stm} {q q' : Sta} {r : Rz} (h : Basic S s q q' r) (hg : goodS p s) : SmallR r := by
  cases h with
  | setT _ h | putA _ h | putE _ _ h | outT _ h => exact small_trap h
  | putC => exact ⟨⟨by decide, by decide⟩, ⟨by decide, by decide⟩⟩
  | throw h =>
    have := goodS_num hg
    rw [h] at this
    simp [numOk] at this
    exact ⟨⟨(by omega : (0 : Int) ≤ 1), (by omega : (1 : Int) ≤ 2)⟩, this⟩
  | _ => exact small_zero
theorem Runs.small {p : Prg} {S : Nat} {ss : List Stm} {m : Mode} {i j s : Nat} {q q' : Sta} {r : Rz} (h : Runs S ss m i j s q q' r) (hg : ∀ i, i < ss.length → goodS p (stAt ss i)) : SmallR r := by
  induction h with
  | plain hi _ _ _ h => exact h.small (hg _ hi)
  | ifT _ _ _ _ h => exact small_trap h
  | nil | zero | if0 => exact small_zero
  | _ => assumption
theorem rz_small (p : Prg) (ls ss : List Int) : SmallR (endR p ls ss) := by
  unfold endR
  by_cases h : startB p ls ss = true
  · obtain ⟨s, _, hr⟩ := runX_spec h
    exact hr.small (code_good (startB_ok h)).1
  · rw [runX_no (by simpa using h)]; exact small_zero
theorem SmallR.in1 {r : Rz} (h : SmallR r) : In64 r.1 := ⟨by have := h.1; omega, by have := h.1; omega⟩
theorem SmallR.in2 {r : Rz} (h : SmallR r) : In64 r.2 := ⟨by have := h.2; omega, by have := h.2; omega⟩
set_option maxRecDepth 20000 in
set_option maxHeartbeats 3200000 in
theorem l8Table_any (r : PRow) (p : Prg) (C : Nat) (w : World) (h : ProgAt w r p) (hz : codeB p = 0) (hC : prodL (maxesP p) = (C : Int)) (hC2 : C ≤ 1024) :
    Calls Tryz.prog 73 #[progV r] w (Tabled w p C) := by
  have hM := Lib.hid (fun (w' : World) (hw : Below w.heap.size w w') => l7Maxes_any r p w' (h.below hw) (code_inputs hz).1 (code_inputs hz).2.1)
  have HMX := Lib.hid (wide_of_max hz)
  have HMO := Lib.hid (maxOk_of hz)
  have HCC : Hid (countTo (maxesP p) (maxesP p).length = (C : Int)) := Lib.hid (by rw [countTo_prod, hC])
  have HL6 : Hid ((maxesP p).length ≤ 6) := Lib.hid (code_max hz).1
  have HAT : Hid (∀ k : Nat, k < C → atOk p (k : Int) = true) := Lib.hid (fun k hk => by simp only [atOk, hz, hC, decide_true, Bool.true_and, Bool.and_eq_true, decide_eq_true_eq]; omega)
  have HP := Lib.hid h
  clear h hz hC
  obtain ⟨wd, ⟨a1, n1, c1⟩, ⟨a2, n2, c2⟩, tp, ⟨a3, n3, c3⟩, ⟨a4, n4, c4⟩, rows⟩ := r
  have HM : Hid (∀ w', Below w.heap.size w w' → Calls Tryz.prog 55 #[.agg #[.int .i64 wd, .slice a1 n1 c1, .slice a2 n2 c2, .int .i64 tp, .slice a3 n3 c3, .slice a4 n4 c4]] w' (MadeInts w' (maxesP p))) := Lib.hid (fun w' hw => hM.out w' hw)
  clear hM
  show Calls Tryz.prog 73 #[.agg #[.int .i64 wd, .slice a1 n1 c1, .slice a2 n2 c2, .int .i64 tp, .slice a3 n3 c3, .slice a4 n4 c4]] w _
  obtain ⟨wa, HW⟩ : ∃ wa, Hid (wa = w.alloc (.cells #[.int .i64 wd, .slice a1 n1 c1, .slice a2 n2 c2, .int .i64 tp, .slice a3 n3 c3, .slice a4 n4 c4] 31)) := ⟨_, rfl⟩
  have BX : Blk wa w.heap.size 31 [.int .i64 wd, .slice a1 n1 c1, .slice a2 n2 c2, .int .i64 tp, .slice a3 n3 c3, .slice a4 n4 c4] := by rw [HW.out]; exact Blk.new w _ _
  have HB : Below w.heap.size w wa := by rw [HW.out]; exact belA (Below.refl _ _)
  go_enter Tryz.func73, Tryz.ntmps73
  go_wp2_with fail
  rw [← HW.out]
  refine (HM.out _ HB).mono ?_
  rintro e w1 ⟨ma, mn, mc, rfl, hom, hb1⟩
  have HMN : Hid (mn = (maxesP p).length) := Lib.hid hom.len.symm
  have hmn : mn ≤ 6 := by rw [HMN.out]; exact HL6.out
  have hbw := HB.trans (hb1.mono HB.size)
  have HBX := Lib.hid (BX.below hb1 BX.lt)
  have HI := Lib.hid hom.ints
  have HBW := Lib.hid hbw
  obtain ⟨k0, HK0⟩ : ∃ k, Hid (w.heap.size = k) := ⟨_, rfl⟩
  have HBX : Hid (Blk w1 k0 31 [.int .i64 wd, .slice a1 n1 c1, .slice a2 n2 c2, .int .i64 tp, .slice a3 n3 c3, .slice a4 n4 c4]) := Lib.hid (by rw [← HK0.out]; exact HBX.out)
  clear HM HW hb1 BX HB hom hbw
  go_wp2_with fail
  rw [HK0.out]
  go_loopw [5, 6, 7] (fun iv ov nv wr => ∃ (k : Nat) (ia oa : Option Addr) (ic oc : Nat) (irs : List Sl) (ors : List OcR), k ≤ C ∧ nv = .int .i64 (k : Int) ∧ iv = .slice ia k ic ∧ ov = .slice oa k oc ∧ OwnIS wr w1.heap.size ia k ic irs (tabIn p k) ∧ OwnO wr w1.heap.size w1.heap.size oa k oc ors (tabOut p k) ∧ Below w1.heap.size w1 wr) (fun _ _ nv _ => C - (intOf nv).toNat)
  case atStart => exact ⟨0, _, _, 0, 0, [], [], Nat.zero_le _, rfl, rfl, rfl, (ownIS_empty w1 _ (Nat.le_refl _)).alloc _, by have := ownO_empty (w1.alloc (.cells #[] 28)) w1.heap.size w1.heap.size (by simp); simpa [tabOut] using this, belA (belA (Below.refl _ _))⟩
  case round =>
    obtain ⟨k, ia, oa, ic, oc, irs, ors, hk, rfl, rfl, rfl, hin, hout, hbel⟩ := hrel
    go_wp2_with fail
    refine (l7Count_any _ _ _ _ _ (HI.out.below hbel) HMO.out).mono ?_
    rintro e w2 ⟨rfl, rfl⟩
    rw [HCC.out]
    by_cases hlt : k < C
    · go_wp2_with fail
      refine (l7At_any _ _ _ _ (k : Int) _ (HI.out.below hbel) HMX.out (by omega) (by omega) hmn).mono ?_
      rintro e w3 ⟨g, zc, rfl, hoz, hb⟩
      have hin := hin.below hb
      have hout := hout.below hb
      have hsz := hbel.size
      have hbel := hbel.trans (hb.mono hbel.size)
      have hsz3 := hbel.size
      have hozb := hoz.base hsz
      have HTI := Lib.hid (tabIn_succ p k)
      have HTO := Lib.hid (tabOut_succ p k)
      clear hoz hb
      go_wp2_with (at_builtin; refine wpList_pushIS _ rfl _ _ rfl w1.heap.size _ _ _ irs (tabIn p k) rfl (hin.alloc _) w3.heap.size (some ⟨g, 0, none⟩, mn, zc) (digs (maxesP p) (k : Int)) rfl (by simp [slV]) (hozb.alloc _) (by omega) (by simp; omega) ?_)
      intro a8 c8 w8 hin8 hg8
      rw [← HTI.out] at hin8
      have hout8 := (hout.alloc (.cells #[slV (some ⟨g, 0, none⟩, mn, zc)] 28)).kinds (hin.alloc _).1 (by decide) (by decide) hg8.1
      have hoz8 : Own w8 w1.heap.size (some ⟨g, 0, none⟩) mn zc (digs (maxesP p) (k : Int)) := (hozb.alloc (.cells #[slV (some ⟨g, 0, none⟩, mn, zc)] 28)).keep hg8.1 (fun g' e => own_kinds hozb.1 hin.1 (by decide) e)
      have hbel8 : Below w1.heap.size w1 w8 := (hbel.alloc hsz3 _).grown hg8.1 (by simp; omega) (fun g e => (hin.1.lt g e).1)
      have hs8 := hbel8.size
      have hX := HBX.out.below hbel8 HBX.out.lt
      have t0 := hX.cell (j := 0) rfl
      have t1 := hX.cell (j := 1) rfl
      have t2 := hX.cell (j := 2) rfl
      have t3 := hX.cell (j := 3) rfl
      have t4 := hX.cell (j := 4) rfl
      have t5 := hX.cell (j := 5) rfl
      clear hX hin hout hozb hbel hg8
      go_wp2_with fail
      refine (l6Of_any ⟨wd, (a1, n1, c1), (a2, n2, c2), tp, (a3, n3, c3), (a4, n4, c4), rows⟩ p _ _ _ (atL p (k : Int)) (atS p (k : Int)) _ (HP.out.below (HBW.out.trans (hbel8.mono HBW.out.size))) (by rw [at_app (HAT.out k hlt)]; exact hoz8.ints) (at_start (HAT.out k hlt))).mono ?_
      rintro e w9 ⟨hb, ⟨va, vn, vc⟩, rfl, hov⟩
      simp only [slV]
      have hin9 := hin8.below hb
      have hout9 := hout8.below hb
      have hbel9 := hbel8.trans (hb.mono hbel8.size)
      have hs9 := hbel9.size
      have hov9 := hov.base hs8
      have hsm := rz_small p (atL p (k : Int)) (atS p (k : Int))
      have HOC : Hid (OcOf w9 w1.heap.size ⟨(va, vn, vc), (endR p (atL p (k : Int)) (atS p (k : Int))).1, (endR p (atL p (k : Int)) (atS p (k : Int))).2⟩ (ocAt p k)) := Lib.hid ⟨rfl, rfl, hsm.in1, hsm.in2, hov9⟩
      obtain ⟨en, HEN⟩ : ∃ en, Hid ((endR p (atL p (k : Int)) (atS p (k : Int))).1 = en) := ⟨_, rfl⟩
      obtain ⟨co, HCO⟩ : ∃ co, Hid ((endR p (atL p (k : Int)) (atS p (k : Int))).2 = co) := ⟨_, rfl⟩
      rw [HEN.out, HCO.out] at HOC ⊢
      clear t0 t1 t2 t3 t4 t5 hin8 hout8 hoz8 hbel8 hb hov hov9 hsm
      go_wp2_with (at_builtin; refine wpList_pushO _ rfl _ _ rfl w1.heap.size w1.heap.size _ _ _ ors (tabOut p k) rfl (hout9.alloc _) w9.heap.size va vn vc en co (ocAt p k) rfl (by simp) (by simp) (by simp) (HOC.out.below (belA (Below.refl _ _))) (by omega) (by simp; omega) ?_)
      intro aa cc wz hoz9 hgz
      rw [← HTO.out] at hoz9
      have hinz := (hin9.alloc (.cells #[.slice va vn vc, .int .i64 en, .int .i64 co] 43)).kinds (hout9.alloc _).1 (by decide) (by decide) hgz.1
      have hbelz : Below w1.heap.size w1 wz := (hbel9.alloc hs9 _).grown hgz.1 (by simp; omega) (fun g e => (hout9.1.lt g e).1)
      clear hin9 hout9 hbel9 hgz HOC
      go_wp2
      go_roundw
      case rel => exact ⟨k + 1, a8, aa, c8, cc, _, _, by omega, by go_num, rfl, rfl, hinz, hoz9, hbelz⟩
      case measure => simp [intOf]; omega
    · obtain rfl : k = C := by omega
      have HF := Lib.hid (HBW.out.trans (hbel.mono HBW.out.size))
      have H1 := Lib.hid (hin.base HBW.out.size)
      have H2 := Lib.hid ((hout.base HBW.out.size).ebase HBW.out.size)
      clear hin hout hbel
      go_wp2
      go_ret2
      exact ⟨HF.out, ia, oa, ic, oc, irs, ors, rfl, H1.out, H2.out⟩
end Go.Proofs.YtmooecbdpfhnlaaGreat
/- The law of a range over a function whose iterator writes cells of its own, where the rounds may turn what is no cells (maps): of the loop's own blocks alone it is asked that they stay. -/
namespace Go.Proofs.YtmooecbdpfhnlaaGreat
open Go.RowKit

/-- How a round's body may be left. -/
def ownPostT {α : Type} (b m : Nat) (I : Nat → List α → World → Prop) (Ix : Code → Nat → List α → World → Prop) (xs : List α) (W : World) : Exit → Act → World → Prop
  | .normal, _, W' => W.heap.size ≤ W'.heap.size ∧ Stay b m W W' ∧ I m xs W'
  | .ret, _, W' => (W.heap.size ≤ W'.heap.size ∧ Stay b (b + 2) W W') ∧ Ix .ret m xs W'
  | .exit id, _, W' => (W.heap.size ≤ W'.heap.size ∧ Stay b (b + 2) W W') ∧ Ix (.exit id) m xs W'
  | .goto t, _, W' => (W.heap.size ≤ W'.heap.size ∧ Stay b (b + 2) W W') ∧ Ix (.goto t) m xs W'
  | .panic _, _, _ => False
  | .outgrown, _, _ => False

section
variable {n : Nat} {P : Program} {w : World}
theorem wpIn_rangeFunc_turns {α : Type} {g : Operand} {ps : Array Tmp} {assign body : Code} {Q : Exit → Act → World → Prop} {a : Act}
    {gf : Nat} {lb : Array Value} (hg : a.eval g = .func (.func gf) #[] lb) (eg : ∀ args w, (callFunc gf args).run P w = .ok (.enter gf args) w)
    {encs : α → Array Value} {Info : Nat → Nat → α → World → Prop} {S Sp : List α → Prop} {w0 : World} (hseq : SeqOwns P (n - 1) gf lb encs Info S Sp w0) (hb0 : Below w0.heap.size w0 w) (hps : ∀ x, (encs x).size = ps.size)
    (hInfo : ∀ lo hi x A B, Info lo hi x A → Stay lo hi A B → A.heap.size ≤ B.heap.size → Info lo hi x B)
    (I : Nat → List α → World → Prop) (Ix : Code → Nat → List α → World → Prop) (Ax : Nat → α → Act → World → Prop)
    (hI : ∀ m s A B, I m s A → Span w.heap.size m A B → I m s B) (hIx : ∀ c m s A B, Ix c m s A → Span w.heap.size m A B → Ix c m s B) (hAx : ∀ m x a' A B, Ax m x a' A → Span w.heap.size m A B → Ax m x a' B)
    (h0 : ∀ W', Below w.heap.size w W' → I W'.heap.size [] W')
    (hassign : ∀ (l m : Nat) (pre : List α) (x : α) (W : World) (K : Act → World → Prop), I m pre W → Info (w.heap.size + 2) m x W →
      (∀ a' W', W.heap.size ≤ W'.heap.size → Stay w.heap.size m W W' → I m pre W' → Ax m x a' W' → K a' W') →
      assign.wpIn (Fence.wide.inRound l) (n - 1 - 1) P (Exit.then K (fun _ _ _ => False)) { tmps := (ps.zip (encs x)).foldl (fun t (p, v) => t.setIfInBounds p v) a.tmps, defers := [] } W)
    (hbody : ∀ (l m : Nat) (pre : List α) (x : α) (a' : Act) (W : World), w.heap.size ≤ l → (∃ r, W.heap[l]? = some (.loop r)) → I m pre W → Info (w.heap.size + 2) m x W → Ax m x a' W →
      body.wpIn (Fence.wide.inRound l) (n - 1 - 1) P (ownPostT w.heap.size m I Ix (pre ++ [x]) W) a' W)
    (hdone : ∀ (D m : Nat) (xs : List α) (W : World), w.heap.size ≤ D → S xs → I m xs W → W.heap[D]? = some (.deferred (some [])) → Q .normal { a with defers := { target := .collected D, args := #[] } :: a.defers } W)
    (hstop : ∀ (D m : Nat) (c : Code) (pre : List α) (W : World), w.heap.size ≤ D → Sp pre → Ix c m pre W → W.heap[D]? = some (.deferred (some [])) → c.wpIn Fence.wide n P Q { a with defers := { target := .collected D, args := #[] } :: a.defers } W) :
    (Code.rangeFunc g ps assign body).wpIn Fence.wide n P Q a w := by
  refine wpIn_rangeFunc ?_
  intro fn hfn
  obtain ⟨R, hR⟩ : ∃ R : LoopState → Option Code → Loop, R = fun st pe => { state := st, pending := pe, fn, tmps := a.tmps, params := ps, assign, body, defers := w.heap.size } := ⟨_, rfl⟩
  obtain ⟨V, hV⟩ : ∃ V, (w.alloc (.deferred (some []))).alloc (.loop (R .ready none)) = V := ⟨_, rfl⟩
  have hVs : V.heap.size = w.heap.size + 2 := by rw [← hV]; simp
  have hVw : Below w.heap.size w V := by rw [← hV]; exact ((Below.refl _ w).alloc (Nat.le_refl _) _).alloc (by simp) _
  have hVl : V.heap[w.heap.size + 1]? = some (.loop (R .ready none)) := by
    rw [← hV]; have := World.alloc_heap_new (w.alloc (.deferred (some []))) (.loop (R .ready none)); rwa [World.size_alloc] at this
  have hVd : V.heap[w.heap.size]? = some (.deferred (some [])) := by
    rw [← hV]; exact (Below.heap_alloc _ _ _ (by simp)).trans (World.alloc_heap_new w _)
  refine ⟨w.heap.size + 1, [{ target := .collected w.heap.size, args := #[] }], V, { target := .fn (.func gf) lb, args := #[.func (.yield (w.heap.size + 1)) #[] #[]] }, V, gf,
    #[.func (.yield (w.heap.size + 1)) #[] #[]] ++ lb, V, ?_, ?_, ?_, ?_, fun e => by simp [Fence.wide] at e, ?_⟩
  · rw [← hV, hR]; exact run_enterLoop_outer _ _ _ _ _
  · simp only [resolve, hg]
    simp [go_sem]
  · intro f' _; trivial
  · simp [invoke, go_sem, eg]
  refine (hseq (w.heap.size + 1)
    (fun m pre W => I m pre W ∧ w.heap.size + 2 ≤ m ∧ W.heap[w.heap.size + 1]? = some (.loop (R .ready none)) ∧ W.heap[w.heap.size]? = some (.deferred (some [])))
    (fun m pre W => ∃ c, Ix c m pre W ∧ w.heap.size + 2 ≤ m ∧ W.heap[w.heap.size + 1]? = some (.loop (R .done (some c))) ∧ W.heap[w.heap.size]? = some (.deferred (some [])))
    V (hb0.trans (hVw.mono hb0.size)) ?_ ?_ ?_ ?_).mono ?_
  · rintro m s A B ⟨h1, h2, h3, h4⟩ hs
    rw [hVs] at hs
    exact ⟨hI m s A B h1 (hs.wide (by omega) (Nat.le_refl _)), h2, (hs.block _ (Array.getElem?_eq_some_iff.1 h3).1 (.inl (by omega))).trans h3, (hs.block _ (Array.getElem?_eq_some_iff.1 h4).1 (.inl (by omega))).trans h4⟩
  · rintro m s A B ⟨c, h1, h2, h3, h4⟩ hs
    rw [hVs] at hs
    exact ⟨c, hIx c m s A B h1 (hs.wide (by omega) (Nat.le_refl _)), h2, (hs.block _ (Array.getElem?_eq_some_iff.1 h3).1 (.inl (by omega))).trans h3, (hs.block _ (Array.getElem?_eq_some_iff.1 h4).1 (.inl (by omega))).trans h4⟩
  · intro W' hb
    have hsz := hb.size
    exact ⟨h0 W' (hVw.trans (hb.mono hVw.size)), by omega, (hb.block _ (by omega)).trans hVl, (hb.block _ (by omega)).trans hVd⟩
  · -- a round
    rintro m pre x W ⟨hi, hm, hl, hd⟩ hx
    rw [hVs] at hx ⊢
    have hy := run_yield (P := P) (args := encs x) hl (by rw [hR]; exact hps x)
    rw [hR] at hy
    refine ⟨fn, _, assign, body, hy, roundIn_of_wpIn hfn (hassign _ m pre x W _ hi hx ?_)⟩
    intro a' U hk hst hiU haU
    have hlU := (hst (w.heap.size + 1) (by omega) (by omega)).trans hl
    have hdU := (hst w.heap.size (by omega) (by omega)).trans hd
    have hst' : Stay (w.heap.size + 2) m W U := fun i h1 h2 => hst i (by omega) h2
    have hltU : w.heap.size + 1 < U.heap.size := (Array.getElem?_eq_some_iff.1 hlU).1
    have hxU := hInfo _ _ _ _ _ hx hst' hk
    refine ⟨_, run_beginRound hlU (by rw [hR]), ?_⟩
    obtain ⟨T, hT⟩ : ∃ T, U.putObj (w.heap.size + 1) (.loop { R .ready none with state := .busy }) = T := ⟨_, rfl⟩
    have hlT : T.heap[w.heap.size + 1]? = some (.loop { R .ready none with state := .busy }) := by rw [← hT]; exact World.putObj_heap_same hltU
    have hdT : T.heap[w.heap.size]? = some (.deferred (some [])) := by rw [← hT]; exact (World.putObj_heap_other (by omega)).trans hdU
    have hsT : Span w.heap.size m U T := by rw [← hT]; exact Span.put _ _ (by omega) (by omega)
    have hyT : Stay (w.heap.size + 2) m U T := by rw [← hT]; exact Stay.put _ _ (by omega)
    rw [hT]
    refine wpIn_mono (hbody _ m pre x a' T (by omega) ⟨_, hlT⟩ (hI _ _ _ _ hiU hsT) (hInfo _ _ _ _ _ hxU hyT hsT.size) (hAx _ _ _ _ _ haU hsT)) ?_
    have fin : ∀ (jump : Option Code) (Z : World), (T.heap.size ≤ Z.heap.size ∧ Stay w.heap.size (w.heap.size + 2) T Z) →
        ∃ Z', (Instr.endRound (w.heap.size + 1) jump).run P Z = .ok (.bool jump.isNone) Z' ∧ Span w.heap.size m Z Z' ∧ Stay (w.heap.size + 2) m Z Z' ∧
          Z'.heap[w.heap.size + 1]? = some (.loop (R (if jump.isNone then .ready else .done) jump)) ∧ Z'.heap[w.heap.size]? = some (.deferred (some [])) := fun jump Z hz => by
      have hlZ := (hz.2 (w.heap.size + 1) (by omega) (by omega)).trans hlT
      have hdZ := (hz.2 w.heap.size (by omega) (by omega)).trans hdT
      have he := run_endRound (P := P) jump hlZ
      refine ⟨_, he, Span.put _ _ (by omega) (by omega), Stay.put _ _ (by omega), ?_, (World.putObj_heap_other (by omega)).trans hdZ⟩
      rw [World.putObj_heap_same (Array.getElem?_eq_some_iff.1 hlZ).1, hR]
    rintro e a3 Z hp
    cases e with
    | normal =>
      obtain ⟨hz, hy3, hi3⟩ := hp
      have hy3' : Stay (w.heap.size + 2) m T Z := fun i h1 h2 => hy3 i (by omega) h2
      obtain ⟨Z', hr, hs, hy4, hl4, hd4⟩ := fin none Z ⟨hz, fun i h1 h2 => hy3 i h1 (by omega)⟩
      exact ⟨_, _, hr, .inl ⟨rfl, ⟨hI _ _ _ _ hi3 hs, hm, hl4, hd4⟩, hst'.trans (hyT.trans (hy3'.trans hy4)), Nat.le_trans hk (Nat.le_trans hsT.size (Nat.le_trans hz hs.size))⟩⟩
    | ret =>
      obtain ⟨hz, hi3⟩ := hp
      obtain ⟨Z', hr, hs, _, hl4, hd4⟩ := fin (some .ret) Z hz
      exact ⟨_, _, hr, .inr ⟨rfl, .ret, hIx _ _ _ _ _ hi3 hs, hm, hl4, hd4⟩⟩
    | exit id =>
      obtain ⟨hz, hi3⟩ := hp
      obtain ⟨Z', hr, hs, _, hl4, hd4⟩ := fin (some (.exit id)) Z hz
      exact ⟨_, _, hr, .inr ⟨rfl, .exit id, hIx _ _ _ _ _ hi3 hs, hm, hl4, hd4⟩⟩
    | goto t =>
      obtain ⟨hz, hi3⟩ := hp
      obtain ⟨Z', hr, hs, _, hl4, hd4⟩ := fin (some (.goto t)) Z hz
      exact ⟨_, _, hr, .inr ⟨rfl, .goto t, hIx _ _ _ _ _ hi3 hs, hm, hl4, hd4⟩⟩
    | panic ch => exact hp.elim
    | outgrown => exact hp.elim
  · -- behind the iterator
    rintro e Z ⟨⟨v, rfl⟩, (⟨m, xs, hS, hi, hm, hl, hd⟩ | ⟨m, pre, hSp, c, hi, hm, hl, hd⟩)⟩
    · exact ⟨none, _, by have := run_endLoop (P := P) hl (by rw [hR]; simp); rw [hR] at this; exact this, hdone _ m xs _ (Nat.le_refl _) hS (hI _ _ _ _ hi (Span.put _ _ (by omega) (by omega))) ((World.putObj_heap_other (by omega)).trans hd)⟩
    · exact ⟨some c, _, by have := run_endLoop (P := P) hl (by rw [hR]; simp); rw [hR] at this; exact this, hstop _ m c pre _ (Nat.le_refl _) hSp (hIx _ _ _ _ _ hi (Span.put _ _ (by omega) (by omega))) ((World.putObj_heap_other (by omega)).trans hd)⟩
end
end Go.Proofs.YtmooecbdpfhnlaaGreat
