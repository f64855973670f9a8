/- Joined texts of this proof (ImplAt, SpecIn, SpecAt, SpecOf, MemLaw, AtAns), in build order. -/
import Derived.Test.YtmooecbdpfhnlaaGreatK28
import Derived.Test.YtmooecbdpfhnlaaGreatK24
import Derived.Test.YtmooecbdpfhnlaaGreatK12
import Derived.Test.YtmooecbdpfhnlaaGreatK10
import Derived.Test.YtmooecbdpfhnlaaGreatK23
/- The contract of the program's InputAt. -/
namespace Go.Proofs.YtmooecbdpfhnlaaGreat
open Go.RowKit Go.Shelf
attribute [local go_sem] Oper.semAt_some

/-- Whether there is such an input; its lows, its secrets. -/
noncomputable def atOk (p : Prg) (N : Int) : Bool := decide (codeB p = 0) && (decide (0 ≤ N) && decide (N < prodL (maxesP p)))
noncomputable def atL (p : Prg) (N : Int) : List Int := if atOk p N = true then (digs (maxesP p) N).take p.lows.length else []
noncomputable def atS (p : Prg) (N : Int) : List Int := if atOk p N = true then (digs (maxesP p) N).drop p.lows.length else []
/-- What InputAt leaves. -/
def AtAns (w : World) (p : Prg) (N : Int) (e : Ending) (w' : World) : Prop :=
  Below w.heap.size w w' ∧ ∃ s t : Sl, e = .returned (.tuple #[slV s, slV t, .bool (atOk p N)]) ∧ Own w' w.heap.size s.1 s.2.1 s.2.2 (atL p N) ∧ Own w' w.heap.size t.1 t.2.1 t.2.2 (atS p N) ∧ ∀ g, (slV s).ownBlock = some g → (slV t).ownBlock ≠ some g
theorem wide_of_max {p : Prg} (h : codeB p = 0) : ∀ m ∈ maxesP p, 0 ≤ m ∧ m ≤ 255 := by
  intro m hm
  obtain ⟨i, hi, rfl⟩ := List.getElem_of_mem hm
  have := (code_max h).2 i hi
  simpa [List.getD_eq_getElem?_getD, List.getElem?_eq_getElem hi] using this
theorem inRound_held {P : Program} {S : World → Prop} {id l m : Nat} {Q : Exit → Act → World → Prop} {a : Act} {w : World} {L : List Oper} (hm : P.follows .mixedOrders = true) (hd : (L.all fun o => match o.op with | .defer _ => false | _ => true) = true) (hQ : ¬ LetsOut Q)
    (h : wpAnyH P .any L.toArray Q S L.toArray.size (Array.replicate L.toArray.size false) a { w with drawn := w.drawn + 1 }) : (Code.region id L.toArray true).wpIn (Fence.wide.inRound l) m P Q a w := by
  refine wpIn_region_any hm (anyIn_of (fun j o ho c e => ?_) hQ _ _ _ _ (wpAny_of_held _ _ _ _ h))
  have hmem : o ∈ L := by have := Array.mem_of_getElem? ho; simpa using this
  have := List.all_eq_true.1 hd o hmem
  rw [e] at this
  cases this
theorem ints_tail {w : World} {B g n c j : Nat} {zs : List Int} (h : Own w B (some ⟨g, 0, none⟩) n c zs) (hj : j ≤ n) (hc : n ≤ c) : Ints w (if c = j then some ⟨g, 0, none⟩ else some ⟨g, j, none⟩) (n - j) (zs.drop j) := by
  have hl := h.len
  refine ⟨by rw [List.length_drop, hl], by have := h.2.1; omega, fun z hz => h.2.2 z (List.mem_of_mem_drop hz), fun hp => ?_⟩
  have hb := (h.block g rfl).2
  rw [if_neg (by omega)]
  refine ⟨g, j, rfl, hb, fun i hi => ?_⟩
  rw [own_cell h.1 (by omega)]
  simp [List.getD_eq_getElem?_getD]
/-- How its loop is left by the return within. -/
def StopAt (k : Nat) (w W0 : World) (p : Prg) (N : Int) (c : Code) (m : Nat) (W : World) : Prop :=
  c = .ret ∧ ∃ s t : Sl, Blk W (k + 1 + 1) 28 [slV s] ∧ Blk W (k + 1 + 1 + 1) 28 [slV t] ∧ Blk W (k + 1 + 1 + 1 + 1) 4 [.bool true] ∧ Own W m s.1 s.2.1 s.2.2 (atL p N) ∧ Own W m t.1 t.2.1 t.2.2 (atS p N) ∧ (∀ g, (slV s).ownBlock = some g → (slV t).ownBlock ≠ some g) ∧ atOk p N = true ∧ W0.heap.size ≤ W.heap.size ∧ Below w.heap.size w W ∧ W0.heap.size ≤ m
/-- Between two rounds. -/
def GoAt (W0 : World) (N : Int) (m : Nat) (pre : List EIn) (W : World) : Prop := (∀ x ∈ pre, (x.k : Int) ≠ N) ∧ m ≤ W.heap.size ∧ W0.heap.size ≤ m ∧ Below W0.heap.size W0 W
theorem belA {w w' : World} {o : Obj} (h : Below w.heap.size w w') : Below w.heap.size w (w'.alloc o) := h.alloc h.size _
end Go.Proofs.YtmooecbdpfhnlaaGreat
/- The contracts of the model's l7Maxes, l7Count, InputsIn and BitsIn. -/
namespace Go.Proofs.YtmooecbdpfhnlaaGreat
open Go.RowKit

theorem maxes_succ {ts : List Tm} {k : Nat} {x y : Int} (hk : k < ts.length) (hz : Hid (tmAt ts k = (x, y))) : maxesL (ts.take (k + 1)) = maxesL (ts.take k) ++ [x] := by
  have e : ts[k] = (x, y) := by have := hz.out; simpa [tmAt, List.getD_eq_getElem?_getD, List.getElem?_eq_getElem hk] using this
  simp [maxesL, List.take_add_one, List.getElem?_eq_getElem hk, e]
set_option maxHeartbeats 1600000 in
theorem l7Maxes_any (r : PRow) (p : Prg) (w : World) (h : ProgAt w r p) (hl1 : p.lows.length ≤ 3) (hl2 : p.secrets.length ≤ 3) :
    Calls Tryz.prog 55 #[progV r] w (MadeInts w (maxesP p)) := by
  obtain ⟨wd, ⟨a1, n1, c1⟩, ⟨a2, n2, c2⟩, tp, ⟨a3, n3, c3⟩, ⟨a4, n4, c4⟩, rows⟩ := r
  show Calls Tryz.prog 55 #[.agg #[.int .i64 wd, .slice a1 n1 c1, .slice a2 n2 c2, .int .i64 tp, .slice a3 n3 c3, .slice a4 n4 c4]] w _
  have h1 := h.lows
  have h2 := h.secrets
  simp only [] at h1 h2
  have L1 := Lib.hid h1.1
  have L2 := Lib.hid h2.1
  have hn1 : n1 ≤ 3 := by rw [← L1.out]; exact hl1
  have hn2 : n2 ≤ 3 := by rw [← L2.out]; exact hl2
  have H1 := Lib.hid h1
  have H2 := Lib.hid h2
  clear h h1 h2 hl1 hl2
  obtain ⟨wa, HW⟩ : ∃ wa, Hid (wa = w.alloc (.cells #[.int .i64 wd, .slice a1 n1 c1, .slice a2 n2 c2, .int .i64 tp, .slice a3 n3 c3, .slice a4 n4 c4] 31)) := ⟨_, rfl⟩
  have BX : Blk wa w.heap.size 31 [.int .i64 wd, .slice a1 n1 c1, .slice a2 n2 c2, .int .i64 tp, .slice a3 n3 c3, .slice a4 n4 c4] := by rw [HW.out]; exact Blk.new w _ _
  have HB : Below w.heap.size w wa := by rw [HW.out]; exact (Below.refl _ _).alloc (Nat.le_refl _) _
  have H1 := Lib.hid (H1.out.below (Nat.le_refl _) HB)
  have H2 := Lib.hid (H2.out.below (Nat.le_refl _) HB)
  have HX := Lib.hid BX
  have HSZ : Hid (wa.heap.size = w.heap.size + 1) := Lib.hid (by rw [HW.out]; simp)
  clear BX
  go_enter Tryz.func55, Tryz.ntmps55
  go_wp2_with fail
  rw [← HW.out]
  go_loopw [3, 4] (fun v i wr => ∃ (k : Nat) (a : Option Addr) (c : Nat), k ≤ n1 ∧ i = .int .i64 k ∧ v = .slice a k c ∧ Own wr wa.heap.size a k c (maxesL (p.lows.take k)) ∧ Below wa.heap.size wa wr) (fun _ i _ => n1 - (intOf i).toNat)
  case atStart => exact ⟨0, _, _, by omega, rfl, rfl, by have := own_empty wa wa.heap.size (Nat.le_refl _); simpa [HSZ.out, maxesL] using this, (Below.refl _ _).alloc (Nat.le_refl _) _⟩
  case round =>
    obtain ⟨k, a, c, hk, rfl, rfl, hown, hbel⟩ := hrel
    have hbs := hbel.size
    have t1 := (HX.out.below hbel HX.out.lt).cell (j := 1) rfl
    by_cases hlt : k < n1
    · obtain ⟨b, o, x, y, rfl, hb, hz, hin1, hin2, hc1, hc2⟩ := (H1.out.below (Nat.le_refl _) hbel).at_ hlt
      clear hc2 hin2
      go_wp2_with (at_builtin; refine wpList_push _ rfl _ _ rfl wa.heap.size _ _ _ (maxesL (p.lows.take k)) rfl (hown.alloc _) wr.heap.size x rfl (by simp) hin1 (by omega) (by simp; omega) ?_)
      intro a8 c8 w8 hown8 hg8
      have hb8 := below_push (hbel.alloc hbs _) (hown.alloc _) (by simp; omega) hg8
      rw [← maxes_succ (by rw [L1.out]; exact hlt) hz] at hown8
      clear hown hg8 hbel t1 hc1
      go_wp2
      go_roundw
      case rel => exact ⟨k + 1, a8, c8, by omega, by go_num, rfl, hown8, hb8⟩
      case measure => simp [intOf]; omega
    · obtain rfl : n1 = k := by omega
      have HO : Hid (Own wr wa.heap.size a n1 c (maxesL p.lows ++ maxesL (p.secrets.take 0))) := Lib.hid (by
        rw [List.take_of_length_le (by rw [L1.out]; exact Nat.le_refl _)] at hown
        simpa [maxesL] using hown)
      have HBE := Lib.hid hbel
      clear hown hbel
      go_wp2_with fail
      go_loopw [3, 5] (fun v i wr => ∃ (k : Nat) (a : Option Addr) (c : Nat), k ≤ n2 ∧ i = .int .i64 k ∧ v = .slice a (n1 + k) c ∧ Own wr wa.heap.size a (n1 + k) c (maxesL p.lows ++ maxesL (p.secrets.take k)) ∧ Below wa.heap.size wa wr) (fun _ i _ => n2 - (intOf i).toNat)
      case atStart => exact ⟨0, _, _, by omega, rfl, rfl, HO.out, HBE.out⟩
      case round =>
        clear HO HBE t1
        obtain ⟨k, a, c, hk, rfl, rfl, hown, hbel⟩ := hrel
        have hbs := hbel.size
        have t2 := (HX.out.below hbel HX.out.lt).cell (j := 2) rfl
        by_cases hlt : k < n2
        · obtain ⟨b, o, x, y, rfl, hb, hz, hin1, hin2, hc1, hc2⟩ := (H2.out.below (Nat.le_refl _) hbel).at_ hlt
          clear hc2 hin2
          go_wp2_with (at_builtin; refine wpList_push _ rfl _ _ rfl wa.heap.size _ _ _ (maxesL p.lows ++ maxesL (p.secrets.take k)) rfl (hown.alloc _) wr.heap.size x rfl (by simp) hin1 (by omega) (by simp; omega) ?_)
          intro a8 c8 w8 hown8 hg8
          have hb8 := below_push (hbel.alloc hbs _) (hown.alloc _) (by simp; omega) hg8
          rw [← maxes_succ (by rw [L2.out]; exact hlt) hz] at hown8
          clear hown hg8 hbel t2 hc1
          go_wp2
          go_roundw
          case rel => exact ⟨k + 1, a8, c8, by omega, by go_num, rfl, hown8, hb8⟩
          case measure => simp [intOf]; omega
        · obtain rfl : n2 = k := by omega
          rw [List.take_of_length_le (by rw [L2.out]; exact Nat.le_refl _), show maxesL p.lows ++ maxesL p.secrets = maxesP p by simp [maxesP, maxesL]] at hown
          have hown := hown.base HB.size
          have hbel := HB.trans (hbel.mono HB.size)
          go_wp2
          go_ret
          exact ⟨_, _, _, rfl, hown, hbel⟩
set_option maxHeartbeats 800000 in
theorem l7Count_any (a : Option Addr) (n c : Nat) (ms : List Int) (w : World) (h : Ints w a n ms) (hm : MaxOk ms) :
    Calls Tryz.prog 54 #[.slice a n c] w fun e w' => e = .returned (.int .i64 (countTo ms ms.length)) ∧ w = w' := by
  have HL := Lib.hid h.1
  have HM := Lib.hid hm
  have hn : n ≤ 6 := by rw [← HL.out]; exact hm.1
  clear hm
  go_enter Tryz.func54, Tryz.ntmps54
  go_wp2
  go_loop [3, 4] (fun q i => ∃ k : Nat, k ≤ n ∧ i = .int .i64 (k : Int) ∧ q = .int .i64 (countTo ms k)) (fun _ i => n - (intOf i).toNat)
  case atStart => exact ⟨0, Nat.zero_le _, rfl, rfl⟩
  case round =>
    obtain ⟨k, hk, rfl, rfl⟩ := hrel
    by_cases hlt : k < n
    · obtain ⟨b, o, z, rfl, hb, hz, hin, hc⟩ := h.at_ hlt
      obtain ⟨p1, p2⟩ := countTo_pos HM.out k (by rw [HL.out]; omega)
      obtain ⟨p3, p4⟩ := countTo_pos HM.out (k + 1) (by rw [HL.out]; omega)
      obtain ⟨z1, z2⟩ := HM.out.2 k (by rw [HL.out]; exact hlt)
      rw [← hz.out] at z1 z2
      have q1 : 256 ^ k ≤ 256 ^ 6 := Nat.pow_le_pow_right (by omega) (by omega)
      have q2 : 256 ^ (k + 1) ≤ 256 ^ 6 := Nat.pow_le_pow_right (by omega) (by omega)
      have HS : Hid (countTo ms (k + 1) = countTo ms k * (z + 1)) := Lib.hid (by rw [countTo, hz.out])
      rw [HS.out] at p3 p4
      have b2 : countTo ms k ≤ 281474976710656 := by omega
      have b4 : countTo ms k * (z + 1) ≤ 281474976710656 := by omega
      clear p2 p4 q1 q2
      generalize countTo ms k = Q at p1 p3 b2 b4 HS ⊢
      go_wp2
      go_round
      case rel => exact ⟨k + 1, by omega, by go_num, by rw [HS.out]⟩
      case measure => simp [intOf]; omega
    · obtain rfl : n = k := by omega
      go_wp2
      go_ret
      exact ⟨ret_int (by rw [HL.out]), rfl⟩
set_option maxHeartbeats 800000 in
theorem specInputsIn_any (r : PRow) (p : Prg) (w : World) (h : ProgAt w r p) :
    Calls Tryz.prog 17 #[progV r] w fun e w' => e = .returned (.int .i64 (countB p)) ∧ Below w.heap.size w w' := by
  have HC : Hid (∀ w', Below w.heap.size w w' → Calls Tryz.prog 51 #[progV r] w' fun e w'' => e = .returned (.bool (codeB p == 0)) ∧ Below w'.heap.size w' w'') := Lib.hid (fun w' hw => specProgOk_any r p w' (h.below hw))
  have HM : Hid (codeB p = 0 → ∀ w', Below w.heap.size w w' → Calls Tryz.prog 55 #[progV r] w' (MadeInts w' (maxesP p))) := Lib.hid (fun hz w' hw => l7Maxes_any r p w' (h.below hw) (code_inputs hz).1 (code_inputs hz).2.1)
  obtain ⟨S, HS⟩ : ∃ S, Hid (countB p = S) := ⟨_, rfl⟩
  rw [HS.out]
  obtain ⟨wd, ⟨a1, n1, c1⟩, ⟨a2, n2, c2⟩, tp, ⟨a3, n3, c3⟩, ⟨a4, n4, c4⟩, rows⟩ := r
  show Calls Tryz.prog 17 #[.agg #[.int .i64 wd, .slice a1 n1 c1, .slice a2 n2 c2, .int .i64 tp, .slice a3 n3 c3, .slice a4 n4 c4]] w _
  clear h
  obtain ⟨wa, HW⟩ : ∃ wa, Hid (wa = w.alloc (.cells #[.int .i64 wd, .slice a1 n1 c1, .slice a2 n2 c2, .int .i64 tp, .slice a3 n3 c3, .slice a4 n4 c4] 31)) := ⟨_, rfl⟩
  have B : Blk wa w.heap.size 31 [.int .i64 wd, .slice a1 n1 c1, .slice a2 n2 c2, .int .i64 tp, .slice a3 n3 c3, .slice a4 n4 c4] := by rw [HW.out]; exact Blk.new w _ _
  have HB : Below w.heap.size w wa := by rw [HW.out]; exact (Below.refl _ _).alloc (Nat.le_refl _) _
  by_cases hz : codeB p = 0
  · have hzz : (codeB p == 0) = true := by simpa using hz
    rw [hzz] at HC
    have HMX := Lib.hid (code_max hz)
    have hS : countTo (maxesP p) (maxesP p).length = S := by rw [← HS.out, countB, if_pos hz]
    have HM := Lib.hid (HM.out hz)
    clear hz hzz HS
    go_enter Tryz.func17, Tryz.ntmps17
    go_wp2_with fail
    rw [← HW.out]
    refine (HC.out _ HB).mono ?_
    rintro e w1 ⟨rfl, hb1⟩
    have B := B.below hb1 B.lt
    have HB := HB.trans (hb1.mono HB.size)
    have t0 := B.cell (j := 0) rfl
    have t1 := B.cell (j := 1) rfl
    have t2 := B.cell (j := 2) rfl
    have t3 := B.cell (j := 3) rfl
    have t4 := B.cell (j := 4) rfl
    have t5 := B.cell (j := 5) rfl
    go_wp2_with fail
    refine (HM.out _ HB).mono ?_
    rintro e w2 ⟨sa, sn, sc, rfl, ho, hb2⟩
    have HB := HB.trans (hb2.mono HB.size)
    clear t0 t1 t2 t3 t4 t5 B hb1 hb2
    go_wp2_with fail
    refine (l7Count_any _ _ _ _ _ ho.ints HMX.out).mono ?_
    rintro e w3 ⟨rfl, rfl⟩
    rw [hS]
    clear ho hS
    go_wp2
    go_ret
    exact ⟨rfl, HB⟩
  · have hzz : (codeB p == 0) = false := by simpa using hz
    rw [hzz] at HC
    have hS : S = -1 := by rw [← HS.out, countB, if_neg hz]
    subst hS
    clear hz hzz HS HM
    go_enter Tryz.func17, Tryz.ntmps17
    go_wp2_with fail
    rw [← HW.out]
    refine (HC.out _ HB).mono ?_
    rintro e w1 ⟨rfl, hb1⟩
    have HB := HB.trans (hb1.mono HB.size)
    go_wp2
    go_ret
    exact ⟨rfl, HB⟩
end Go.Proofs.YtmooecbdpfhnlaaGreat
/- The contract of the model's InputAt. -/
namespace Go.Proofs.YtmooecbdpfhnlaaGreat
open Go.RowKit

/-- What an append onto an empty literal at block b leaves: nothing, or a row there or behind N. -/
def Fix (w : World) (N b : Nat) (a : Option Addr) (m c : Nat) (ys : List Int) : Prop := m ≤ 1048576 ∧ ((m = 0 ∧ ys = []) ∨ ∃ g, a = some ⟨g, 0, none⟩ ∧ Own w 0 a m c ys ∧ (g = b ∨ N ≤ g))
theorem Fix.ints {w : World} {N b m c : Nat} {a : Option Addr} {ys : List Int} (h : Fix w N b a m c ys) : Ints w a m ys := by
  rcases h with ⟨_, ⟨rfl, rfl⟩ | ⟨g, rfl, ho, _⟩⟩
  · exact ⟨rfl, by omega, fun z hz => (by cases hz), fun hp => absurd hp (by omega)⟩
  · exact ho.ints
theorem Fix.below {w w' : World} {N b m c : Nat} {a : Option Addr} {ys : List Int} (h : Fix w N b a m c ys) (hb : Below w.heap.size w w') : Fix w' N b a m c ys := by
  rcases h with ⟨hm, h | ⟨g, hg, ho, hl⟩⟩
  · exact ⟨hm, .inl h⟩
  · exact ⟨hm, .inr ⟨g, hg, ho.below hb, hl⟩⟩
theorem Fix.other {w w' : World} {N b b' m c : Nat} {a : Option Addr} {ys : List Int} (h : Fix w N b a m c ys) (hg : w.grownBy w' (some b')) (hb : b' ≠ b) (hN : b' < N ∨ w.heap.size ≤ b') : Fix w' N b a m c ys := by
  rcases h with ⟨hm, h | ⟨g, rfl, ho, hl⟩⟩
  · exact ⟨hm, .inl h⟩
  · refine ⟨hm, .inr ⟨g, rfl, ho.keep hg (fun g' hg' e => ?_), hl⟩⟩
    have hg'' : some g = some g' := hg'
    injection hg'' with hg''
    injection e with e
    have := (ho.block g rfl).2
    omega
theorem step_cloneE {ops : Array Oper} {o : Oper} {ac : Act} {K : Act → World → Prop} {Q : Exit → Act → World → Prop} {E : Prop} (w : World) (hgd : o.guard = none) (s x : Operand)
    (ho : o.op = .call { callee := .builtin .append, args := #[s, x], argTypes := #[28, 28] })
    (b : Nat) (hs : ac.eval s = .slice (some ⟨b, 0, none⟩) 0 0) (hown : Own w 0 (some ⟨b, 0, none⟩) 0 0 [])
    (a2 : Option Addr) (m c2 : Nat) (ys : List Int) (hx : ac.eval x = .slice a2 m c2) (hi2 : Ints w a2 m ys)
    (h : ∀ a1 c1 w', Fix w' w.heap.size b a1 m c1 ys → w.grownBy w' (some b) → K (ac.put o.dst (.slice a1 m c1)) w') :
    if Region.wanted o (yielded ops ac.tmps) = true then Oper.wp Tryz.prog o ac w K Q else E := by
  have hm := hi2.2.1
  rcases Nat.eq_zero_or_pos m with h0 | h0
  · subst h0
    have hys : ys = [] := List.eq_nil_of_length_eq_zero hi2.1
    subst hys
    have hwant : Region.wanted o (yielded ops ac.tmps) = true := by simp [Region.wanted, hgd]
    rw [if_pos hwant]
    cases a2 with
    | none =>
      have hrun := run_append_nothing w o.type (.slice (some ⟨b, 0, none⟩) 0 0) 0 0 _ hown.1 c2
      unfold Oper.wp
      simp [execOp, ho, resolve, invoke, builtin, hs, hx, hrun, Result.andThen]
      exact h _ _ _ ⟨hm, .inl ⟨rfl, rfl⟩⟩ (World.grownBy.refl _ _)
    | some ad =>
      obtain ⟨i0, hi, hz0, hz1, hz2⟩ := info_parts info_i64
      refine wp_append_own w s x 28 ho 0 2 i0 (.int .i64 0) 1 8 Tryz.underlying28 hi hz0 hz1 hz2 rfl (by omega) (.slice (some ⟨b, 0, none⟩) 0 0) 0 [] hs hown.1 ad 0 c2 [] hx rfl (fun j u hj => by cases hj) (fun u hu => by cases hu) (by unfold maxLen; omega) (by omega) (by omega) ?_
      intro v' w' h1 h2 _
      have hf : ∃ a1 c1, v' = .slice a1 0 c1 := by
        rcases h1.2 with ⟨e, h0⟩ | ⟨g', cap, cur, e, _⟩
        · exact ⟨none, 0, e⟩
        · exact ⟨_, _, e⟩
      obtain ⟨a1, c1, rfl⟩ := hf
      exact h a1 c1 w' ⟨hm, .inl ⟨rfl, rfl⟩⟩ h2
  · obtain ⟨b2, o2, rfl, hb2, hc⟩ := hi2.2.2.2 h0
    refine step_pushG w hgd s x 28 2 (.int .i64 0) 1 8 ho Tryz.underlying28 info_i64 rfl (by omega) 0 (some ⟨b, 0, none⟩) 0 0 [] hs hown.1 ⟨b2, o2, none⟩ m c2 (ys.map (Value.int .i64)) hx (by simp [hi2.1]) ?_ (ints_oneCell _ _) h0 (by unfold maxLen; omega) (by omega) (by omega) ?_
    · intro j u hj
      have hjl : j < ys.length := by have := (List.getElem?_eq_some_iff.1 hj).1; simpa using this
      rw [Go.WideShapes.add_plain, hc j (by have := hi2.1; omega), ← hj]
      simp [List.getD_eq_getElem?_getD, hjl]
    · intro g c1 w' r1 r2
      have hl : g = b ∨ w.heap.size ≤ g := by
        rcases r2.2 g rfl with e | e
        · exact .inl (by have e' : some b = some g := e; injection e' with e'; exact e'.symm)
        · exact .inr e
      have hK := h (some ⟨g, 0, none⟩) c1 w' ⟨hm, .inr ⟨g, rfl, ⟨by simpa using r1, hm, hi2.2.2.1⟩, hl⟩⟩ r2.1
      simpa using hK
theorem belD (w : World) : Below w.heap.size w w.drew := ⟨rfl, rfl, rfl, Nat.le_refl _, fun _ _ => rfl⟩
theorem belG {w w' w'' : World} {b : Nat} (h : Below w.heap.size w w') (hg : w'.grownBy w'' (some b)) (hb : w.heap.size ≤ b) : Below w.heap.size w w'' := h.grown hg h.size (fun k e => by injection e with e; omega)
theorem belN {w w' : World} (h : Below w.heap.size w w') : Below w.heap.size w w'.drew := ⟨h.os, h.tape, h.output, h.size, h.block⟩
theorem ownD {w : World} {b : Nat} (h : Own w 0 (some ⟨b, 0, none⟩) 0 0 []) : Own w.drew 0 (some ⟨b, 0, none⟩) 0 0 [] := h
theorem own_empty' (X : World) (b : Nat) (h : X.heap.size = b) : Own (X.alloc (.cells #[] 2)) 0 (some ⟨b, 0, none⟩) 0 0 [] := by rw [← h]; exact own_empty X 0 (Nat.zero_le _)
theorem ownK {w w' : World} {b b' : Nat} (h : Own w 0 (some ⟨b, 0, none⟩) 0 0 []) (hg : w.grownBy w' (some b')) (hne : b' ≠ b) : Own w' 0 (some ⟨b, 0, none⟩) 0 0 [] := h.keep hg (fun g hg' e => by
  have hg'' : some b = some g := hg'
  injection hg'' with hg''
  injection e with e
  omega)
/-- What the model's InputAt leaves. -/
def AtSaid (w : World) (p : Prg) (N : Int) (e : Ending) (w' : World) : Prop :=
  Below w.heap.size w w' ∧ ∃ s t : Sl, e = .returned (.tuple #[slV s, slV t, .bool (atOk p N)]) ∧ Ints w' s.1 s.2.1 (atL p N) ∧ Ints w' t.1 t.2.1 (atS p N)
theorem ints_nil (w : World) (a : Option Addr) : Ints w a 0 [] := ⟨rfl, by omega, fun z hz => (by cases hz), fun hp => absurd hp (by omega)⟩
theorem l1In_any (x lo hi : Int) (w : World) : Calls Tryz.prog 71 #[.int .i64 x, .int .i64 lo, .int .i64 hi] w fun e w' => e = .returned (.bool (decide (lo ≤ x) && decide (x ≤ hi))) ∧ w' = w := by
  obtain ⟨R, HR⟩ : ∃ R, Hid ((decide (lo ≤ x) && decide (x ≤ hi)) = R) := ⟨_, rfl⟩
  rw [HR.out]
  go_enter Tryz.func71, Tryz.ntmps71
  by_cases h1 : lo ≤ x
  · by_cases h2 : x ≤ hi
    · obtain rfl : R = true := by rw [← HR.out, decide_eq_true h1, decide_eq_true h2]; rfl
      go_wp2
      go_ret
      exact ⟨rfl, rfl⟩
    · obtain rfl : R = false := by rw [← HR.out, decide_eq_false h2, Bool.and_false]
      go_wp2
      go_ret
      exact ⟨rfl, rfl⟩
  · obtain rfl : R = false := by rw [← HR.out, decide_eq_false h1, Bool.false_and]
    go_wp2
    go_ret
    exact ⟨rfl, rfl⟩
set_option maxRecDepth 100000 in
set_option maxHeartbeats 4000000 in
theorem specInputAt_any (r : PRow) (p : Prg) (N : Int) (w : World) (h : ProgAt w r p) (_hN : In64 N) :
    Calls Tryz.prog 53 #[progV r, .int .i64 N] w (AtSaid w p N) := by
  have HC : Hid (∀ w', Below w.heap.size w w' → Calls Tryz.prog 51 #[progV r] w' fun e w'' => e = .returned (.bool (codeB p == 0)) ∧ Below w'.heap.size w' w'') := Lib.hid (fun w' hw => specProgOk_any r p w' (h.below hw))
  have HI : Hid (∀ w', Below w.heap.size w w' → Calls Tryz.prog 17 #[progV r] w' fun e w'' => e = .returned (.int .i64 (countB p)) ∧ Below w'.heap.size w' w'') := Lib.hid (fun w' hw => specInputsIn_any r p w' (h.below hw))
  have HM : Hid (codeB p = 0 → ∀ w', Below w.heap.size w w' → Calls Tryz.prog 55 #[progV r] w' (MadeInts w' (maxesP p))) := Lib.hid (fun hz w' hw => l7Maxes_any r p w' (h.below hw) (code_inputs hz).1 (code_inputs hz).2.1)
  have HN1 : Hid (r.lows.2.1 = p.lows.length) := Lib.hid h.lows.1.symm
  clear h
  obtain ⟨wd, ⟨a1, n1, c1⟩, ⟨a2, n2, c2⟩, tp, ⟨a3, n3, c3⟩, ⟨a4, n4, c4⟩, rows⟩ := r
  simp only [progV, slV] at HC HI HM HN1
  show Calls Tryz.prog 53 #[.agg #[.int .i64 wd, .slice a1 n1 c1, .slice a2 n2 c2, .int .i64 tp, .slice a3 n3 c3, .slice a4 n4 c4], .int .i64 N] w _
  obtain ⟨wa, HW⟩ : ∃ wa, Hid (wa = w.alloc (.cells #[.int .i64 wd, .slice a1 n1 c1, .slice a2 n2 c2, .int .i64 tp, .slice a3 n3 c3, .slice a4 n4 c4] 31)) := ⟨_, rfl⟩
  have B : Blk wa w.heap.size 31 [.int .i64 wd, .slice a1 n1 c1, .slice a2 n2 c2, .int .i64 tp, .slice a3 n3 c3, .slice a4 n4 c4] := by rw [HW.out]; exact Blk.new w _ _
  have HB : Below w.heap.size w wa := by rw [HW.out]; exact (Below.refl _ _).alloc (Nat.le_refl _) _
  by_cases hz : codeB p = 0
  case neg =>
    have hzz : (codeB p == 0) = false := by simpa using hz
    rw [hzz] at HC
    have hok : atOk p N = false := by simp [atOk, hz]
    have HAL : Hid (atL p N = []) := Lib.hid (by rw [atL, hok]; rfl)
    have HAS : Hid (atS p N = []) := Lib.hid (by rw [atS, hok]; rfl)
    clear hz hzz HI HM
    go_enter Tryz.func53, Tryz.ntmps53
    go_wp2_with fail
    rw [← HW.out]
    refine (HC.out _ HB).mono ?_
    rintro e w1 ⟨rfl, hb1⟩
    have HF := HB.trans (hb1.mono HB.size)
    have HF2 := Lib.hid (belA (o := .cells #[] 2) (belA (o := .cells #[] 2) HF))
    clear HF HB hb1 B HW
    go_wp2
    go_ret3
    exact ⟨HF2.out, (_, 0, 0), (_, 0, 0), by rw [hok]; rfl, by rw [HAL.out]; exact ints_nil _ _, by rw [HAS.out]; exact ints_nil _ _⟩
  case pos =>
    have hzz : (codeB p == 0) = true := by simpa using hz
    rw [hzz] at HC
    have HM := Lib.hid (HM.out hz)
    have hMX := wide_of_max hz
    have hL6 := (code_max hz).1
    have hC : countB p = prodL (maxesP p) := by rw [countB, if_pos hz, countTo_prod]
    rw [hC] at HI
    have hp1 := prodL_pos (fun m hm => (hMX m hm).1)
    have hp2 := prodL_small hMX hL6
    have hok : atOk p N = (decide (0 ≤ N) && decide (N ≤ prodL (maxesP p) - 1)) := by
      simp only [atOk, hz, decide_true, Bool.true_and]
      congr 1
      exact decide_eq_decide.2 ⟨fun h => by omega, fun h => by omega⟩
    have hnL : n1 ≤ (maxesP p).length := by rw [maxesP_len, HN1.out]; omega
    have HA : Hid (atOk p N = true → atL p N = (digs (maxesP p) N).take n1 ∧ atS p N = (digs (maxesP p) N).drop n1) := Lib.hid (fun h => by rw [atL, atS, if_pos h, if_pos h, HN1.out]; exact ⟨rfl, rfl⟩)
    have HNO : Hid (atOk p N = false → atL p N = [] ∧ atS p N = []) := Lib.hid (fun h => by rw [atL, atS, h]; exact ⟨rfl, rfl⟩)
    have HMX := Lib.hid hMX
    obtain ⟨C, HCC⟩ : ∃ C, Hid (prodL (maxesP p) = C) := ⟨_, rfl⟩
    rw [HCC.out] at HI hp1 hp2 hok
    obtain ⟨ok, HOK⟩ : ∃ ok, Hid (atOk p N = ok) := ⟨_, rfl⟩
    rw [HOK.out] at hok HA HNO
    have HL1 : Hid (∀ w' : World, Calls Tryz.prog 71 #[.int .i64 N, .int .i64 0, .int .i64 (C - 1)] w' fun e w'' => e = .returned (.bool ok) ∧ w'' = w') := Lib.hid (fun w' => by rw [hok]; exact l1In_any _ _ _ _)
    obtain ⟨ms, HMS⟩ : ∃ ms, Hid (maxesP p = ms) := ⟨_, Lib.hid rfl⟩
    rw [HMS.out] at HM HA hL6 hnL HMX HCC
    have HR : Hid (ok = true → 0 ≤ N ∧ N ≤ 281474976710656) := Lib.hid (fun h => by
      rw [h] at hok
      have := hok.symm
      simp only [Bool.and_eq_true, decide_eq_true_eq] at this
      omega)
    clear hz hzz hMX hC hok HMS HN1
    go_enter Tryz.func53, Tryz.ntmps53
    go_wp2_with fail
    rw [← HW.out]
    refine (HC.out _ HB).mono ?_
    rintro e w1 ⟨rfl, hb1⟩
    have B := B.below hb1 B.lt
    have HB := HB.trans (hb1.mono HB.size)
    have t0 := B.cell (j := 0) rfl
    have t1 := B.cell (j := 1) rfl
    have t2 := B.cell (j := 2) rfl
    have t3 := B.cell (j := 3) rfl
    have t4 := B.cell (j := 4) rfl
    have t5 := B.cell (j := 5) rfl
    clear hb1 HW
    go_wp2_with fail
    refine (HI.out _ HB).mono ?_
    rintro e w2 ⟨rfl, hb2⟩
    have B := B.below hb2 B.lt
    have HB := HB.trans (hb2.mono HB.size)
    clear hb2 t0 t1 t2 t3 t4 t5
    go_wp2_with fail
    refine (HL1.out _).mono ?_
    rintro e w3 ⟨rfl, rfl⟩
    cases ok with
    | false =>
      have HF2 := Lib.hid (belA (o := .cells #[] 2) (belA (o := .cells #[] 2) HB))
      have HNN := Lib.hid (HNO.out rfl)
      clear HB B HNO HA HR
      go_wp2
      go_ret3
      exact ⟨HF2.out, (_, 0, 0), (_, 0, 0), by rw [HOK.out]; rfl, by rw [HNN.out.1]; exact ints_nil _ _, by rw [HNN.out.2]; exact ints_nil _ _⟩
    | true =>
      obtain ⟨r0, r1⟩ := HR.out rfl
      have t0 := B.cell (j := 0) rfl
      have t1 := B.cell (j := 1) rfl
      have t2 := B.cell (j := 2) rfl
      have t3 := B.cell (j := 3) rfl
      have t4 := B.cell (j := 4) rfl
      have t5 := B.cell (j := 5) rfl
      go_wp2_with fail
      refine (HM.out _ HB).mono ?_
      rintro e w4 ⟨ma, mn, mc, rfl, hom, hb4⟩
      have hmn : mn ≤ 6 := by rw [← hom.len]; exact hL6
      have B := B.below hb4 B.lt
      have HB := HB.trans (hb4.mono HB.size)
      clear hb4 t0 t1 t2 t3 t4 t5
      go_wp2_with fail
      refine (l7At_any _ _ _ _ N _ hom.ints HMX.out r0 r1 hmn).mono ?_
      rintro e w5 ⟨g, zc, rfl, hoz, hb5⟩
      have B := B.below hb5 B.lt
      have HB := HB.trans (hb5.mono HB.size)
      have t1 := B.cell (j := 1) rfl
      have hzn : mn = ms.length := by rw [← hoz.len, digs_len]
      have hn1z : n1 ≤ mn := by omega
      subst hzn
      have hzc := hoz.cap
      have hn1c : n1 ≤ zc := by omega
      have HI1 : Hid (∀ w', Below w5.heap.size w5 w' → Ints w' (some ⟨g, 0, none⟩) n1 ((digs ms N).take n1)) := Lib.hid (fun w' hb => ((hoz.cut hn1z).below hb).ints)
      have HW5 := Lib.hid HB
      obtain ⟨A1, A2⟩ := HA.out trivial
      have HI2 : Hid (∀ w', Below w5.heap.size w5 w' → Ints w' (if zc = n1 then some ⟨g, 0, none⟩ else some ⟨g, n1, none⟩) (ms.length - n1) ((digs ms N).drop n1)) := Lib.hid (fun w' hb => ints_tail (hoz.below hb) hn1z hzc)
      clear hom hb5 hoz HB B HR HL1 HC HI HM
      go_wp2_with fail
      go_region_law (first
        | (refine step_cloneE _ (by rfl) _ _ (by rfl) _ (by rfl) (by first | (refine own_empty' _ _ ?_; simp; done) | (refine ownD (own_empty' _ _ ?_); simp; done) | (refine (own_empty' _ _ ?_).alloc _; simp; done) | (refine ownD ((own_empty' _ _ ?_).alloc _); simp; done) | (refine ownK (own_empty' _ _ ?_) y8 ?_ <;> first | (simp; done) | (simp; omega) | omega) | (refine ownK (ownD (own_empty' _ _ ?_)) y8 ?_ <;> first | (simp; done) | (simp; omega) | omega) | (refine ownK ((own_empty' _ _ ?_).alloc _) y8 ?_ <;> first | (simp; done) | (simp; omega) | omega) | (refine ownK (ownD ((own_empty' _ _ ?_).alloc _)) y8 ?_ <;> first | (simp; done) | (simp; omega) | omega) | (refine ownK (own_empty' _ _ ?_) y9 ?_ <;> first | (simp; done) | (simp; omega) | omega) | (refine ownK (ownD (own_empty' _ _ ?_)) y9 ?_ <;> first | (simp; done) | (simp; omega) | omega) | (refine ownK ((own_empty' _ _ ?_).alloc _) y9 ?_ <;> first | (simp; done) | (simp; omega) | omega) | (refine ownK (ownD ((own_empty' _ _ ?_).alloc _)) y9 ?_ <;> first | (simp; done) | (simp; omega) | omega)) (some ⟨g, 0, none⟩) n1 zc ((digs ms N).take n1) (by rfl) (HI1.out _ (by repeat' (first | exact belD _ | exact Below.refl _ _ | refine belN ?_ | refine belA ?_ | refine belG ?_ y8 ?_ | refine belG ?_ y9 ?_ | (simp; done) | (have := y8.size; simp at this ⊢; omega) | (have := y9.size; simp at this ⊢; omega)))) ?_; intro a8 c8 w8 x8 y8)
        | (refine step_cloneE _ (by rfl) _ _ (by rfl) _ (by rfl) (by first | (refine own_empty' _ _ ?_; simp; done) | (refine ownD (own_empty' _ _ ?_); simp; done) | (refine (own_empty' _ _ ?_).alloc _; simp; done) | (refine ownD ((own_empty' _ _ ?_).alloc _); simp; done) | (refine ownK (own_empty' _ _ ?_) y8 ?_ <;> first | (simp; done) | (simp; omega) | omega) | (refine ownK (ownD (own_empty' _ _ ?_)) y8 ?_ <;> first | (simp; done) | (simp; omega) | omega) | (refine ownK ((own_empty' _ _ ?_).alloc _) y8 ?_ <;> first | (simp; done) | (simp; omega) | omega) | (refine ownK (ownD ((own_empty' _ _ ?_).alloc _)) y8 ?_ <;> first | (simp; done) | (simp; omega) | omega) | (refine ownK (own_empty' _ _ ?_) y9 ?_ <;> first | (simp; done) | (simp; omega) | omega) | (refine ownK (ownD (own_empty' _ _ ?_)) y9 ?_ <;> first | (simp; done) | (simp; omega) | omega) | (refine ownK ((own_empty' _ _ ?_).alloc _) y9 ?_ <;> first | (simp; done) | (simp; omega) | omega) | (refine ownK (ownD ((own_empty' _ _ ?_).alloc _)) y9 ?_ <;> first | (simp; done) | (simp; omega) | omega)) _ (ms.length - n1) (zc - n1) ((digs ms N).drop n1) (by rfl) (HI2.out _ (by repeat' (first | exact belD _ | exact Below.refl _ _ | refine belN ?_ | refine belA ?_ | refine belG ?_ y8 ?_ | refine belG ?_ y9 ?_ | (simp; done) | (have := y8.size; simp at this ⊢; omega) | (have := y9.size; simp at this ⊢; omega)))) ?_; intro a9 c9 w9 x9 y9))
      all_goals go_wp2
      all_goals
        go_ret3
        refine ⟨HW5.out.trans (Below.mono ?hB HW5.out.size), (a8, n1, c8), (a9, ms.length - n1, c9), ?hE, ?h1, ?h2⟩
        case hE => rw [HOK.out]; rfl
        case hB => repeat' (first | exact belD _ | exact Below.refl _ _ | refine belN ?_ | refine belA ?_ | refine belG ?_ y8 ?_ | refine belG ?_ y9 ?_ | (simp; done) | (have := y8.size; simp at this ⊢; omega) | (have := y9.size; simp at this ⊢; omega))
        case h1 => rw [A1]; first | exact x8.ints | (refine (x8.other y9 ?_ ?_).ints <;> first | omega | (simp; done) | (simp; omega)) | exact (x8.below (belG (belA (Below.refl _ _)) y9 (Nat.le_refl _))).ints | exact (x8.below (belG (belN (belA (Below.refl _ _))) y9 (Nat.le_refl _))).ints
        case h2 => rw [A2]; first | exact x9.ints | (refine (x9.other y8 ?_ ?_).ints <;> first | omega | (simp; done) | (simp; omega)) | exact (x9.below (belG (belA (Below.refl _ _)) y8 (Nat.le_refl _))).ints | exact (x9.below (belG (belN (belA (Below.refl _ _))) y8 (Nat.le_refl _))).ints
end Go.Proofs.YtmooecbdpfhnlaaGreat
/- The contract of the model's l6Of. -/
namespace Go.Proofs.YtmooecbdpfhnlaaGreat
open Go.RowKit

/-- A call of l6Of under way, its boxes in wa: the environment's box. -/
structure OB (wa wi : World) (b : Nat) (er : ERow) (q : Sta) : Prop where
  out : Blk wi b 90 [slV er.vars, slV er.cells]
  mem : EnvMem wi wa.heap.size er (none, 0, 0) q
  bel : Below wa.heap.size wa wi
  kb : wa.heap.size ≤ b
section
variable {w wi wj wk : World} {b : Nat} {er : ERow} {q : Sta}
theorem OB.below (h : OB w wi b er q) (hb : Below wi.heap.size wi wj) : OB w wj b er q :=
  ⟨h.out.below hb h.out.lt, h.mem.below hb, h.bel.trans (hb.mono h.bel.size), h.kb⟩
theorem OB.alloc (h : OB w wi b er q) (o : Obj) : OB w (wi.alloc o) b er q := h.below ((Below.refl _ _).alloc (Nat.le_refl _) o)
theorem OB.row {a1 : Option Addr} {c1 : Nat} {zs : List Int} {r : Sl} (h : OB w wi b er q) (hb : Below wi.heap.size wi wj) (hr : Own wj wi.heap.size r.1 r.2.1 r.2.2 zs)
    (ho : wk.ownsRow w.heap.size 28 1 (.slice a1 (er.cells.2.1 + 1) c1) (er.cells.2.1 + 1) ((er.rows ++ [r]).map slV)) (hn : er.cells.2.1 < 1048576) (hg : wj.grownBy wk (slV er.cells).ownBlock) :
    OB w (wk.setCell ⟨b, 1, none⟩ (.slice a1 (er.cells.2.1 + 1) c1)) b ⟨er.vars, (a1, er.cells.2.1 + 1, c1), er.rows ++ [r]⟩ ⟨q.vars, q.cells ++ [zs], q.outs⟩ := by
  have kb := h.kb
  have h2 := h.below hb
  have o1 := blk_row h2.out h2.mem.cells.1 (by decide) hg
  refine ⟨o1.set (j := 1) _, (h.mem.row hb h.bel.size hr (cs' := (a1, er.cells.2.1 + 1, c1)) ho rfl hn hg).set o1 (by decide) (by decide) _, ?_, kb⟩
  exact below_set (h2.bel.grown hg h2.bel.size (fun g e => (h2.mem.cells.1.lt g e).1)) (by omega) _
end
/-- An outcome is told. -/
def AnsO (w : World) (zs : List Int) (rr : Rz) (e : Ending) (w' : World) : Prop :=
  Below w.heap.size w w' ∧ ∃ os : Sl, e = .returned (.agg #[slV os, .int .i64 rr.1, .int .i64 rr.2]) ∧ Own w' w.heap.size os.1 os.2.1 os.2.2 zs
end Go.Proofs.YtmooecbdpfhnlaaGreat
/- What a law holds of the memory while it asks: the arguments that it hands over (a program, two slices of numbers), in blocks of their own. -/
namespace Go.Proofs.YtmooecbdpfhnlaaGreat
open Go.RowKit

/-- The arguments: the program from block P0 on, the two slices from P1, P2 on; the program's box b10. -/
structure XG (vk : World) (P0 P1 P2 : Nat) (rx : PRow) (p : Prg) (s1 s2 : Sl) (zs1 zs2 : List Int) : Prop where
  x0 : OwnProg vk P0 rx p
  x1 : Own vk P1 s1.1 s1.2.1 s1.2.2 zs1
  x2 : Own vk P2 s2.1 s2.2.1 s2.2.2 zs2
theorem XG.below {vk vl : World} {P0 P1 P2 : Nat} {rx : PRow} {p : Prg} {s1 s2 : Sl} {zs1 zs2 : List Int} (h : XG vk P0 P1 P2 rx p s1 s2 zs1 zs2) (hb : Below vk.heap.size vk vl) : XG vl P0 P1 P2 rx p s1 s2 zs1 zs2 := ⟨h.x0.below hb, h.x1.below hb, h.x2.below hb⟩
/-- Where they lie. -/
structure XIn (P0 P1 P2 P3 : Nat) (rx : PRow) (s1 s2 : Sl) : Prop where
  x0 : ProgIn P0 P1 rx
  x1 : SlIn P1 P2 s1
  x2 : SlIn P2 P3 s2
  l1 : P0 ≤ P1
  l2 : P1 ≤ P2
  l3 : P2 ≤ P3
theorem SlIn.wide {lo hi lo' hi' : Nat} {s : Sl} (h : SlIn lo hi s) (h1 : lo' ≤ lo) (h2 : hi ≤ hi') : SlIn lo' hi' s := fun g hg => by have := h g hg; omega
end Go.Proofs.YtmooecbdpfhnlaaGreat
/- The answers of InputAt, as a law asks for them. -/
namespace Go.Proofs.YtmooecbdpfhnlaaGreat
open Go.RowKit

theorem specInputAt_ans (r : PRow) (p : Prg) (N : Int) (w : World) (h : ProgAt w r p) (hN : In64 N) :
    Calls Tryz.prog 53 #[progV r, .int .i64 N] w fun e w' => Below w.heap.size w w' ∧ ∃ s t : Sl, e = .returned (.tuple #[slV s, slV t, .bool (atOk p N)]) ∧ Ints w' s.1 s.2.1 (atL p N) ∧ Ints w' t.1 t.2.1 (atS p N) := specInputAt_any r p N w h hN
end Go.Proofs.YtmooecbdpfhnlaaGreat
