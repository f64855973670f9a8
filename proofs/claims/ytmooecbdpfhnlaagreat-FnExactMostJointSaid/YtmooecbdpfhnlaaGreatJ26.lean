/- Joined texts of this proof (J29, J30), in build order. -/
import Derived.Test.YtmooecbdpfhnlaaGreatJ24
import Derived.Test.YtmooecbdpfhnlaaGreatJ25
import Derived.Test.YtmooecbdpfhnlaaGreatJ17
import Derived.Test.YtmooecbdpfhnlaaGreatJ8
import Derived.Test.YtmooecbdpfhnlaaGreatJ11
import Derived.Test.YtmooecbdpfhnlaaGreatJ22
/- Joined texts of this proof (ImplAt, SpecIn, SpecAt, SpecOf, AtAns, AtMath), in build order. -/
/- The contract of the program's InputAt. -/
namespace Go.Proofs.YtmooecbdpfhnlaaGreat
open Go.RowKit Go.Shelf
attribute [local go_sem] Oper.semAt_some

/-- Whether there is such an input; its lows, its secrets. -/
noncomputable def atOk (p : Prg) (N : Int) : Bool := decide (codeB p = 0) && (decide (0 ≤ N) && decide (N < prodL (maxesP p)))
noncomputable def atL (p : Prg) (N : Int) : List Int := if atOk p N = true then (digs (maxesP p) N).take p.lows.length else []
noncomputable def atS (p : Prg) (N : Int) : List Int := if atOk p N = true then (digs (maxesP p) N).drop p.lows.length else []
/-- What InputAt leaves. -/
def AtAns (w : World) (p : Prg) (N : Int) (e : Ending) (w' : World) : Prop :=
  Below w.heap.size w w' ∧ ∃ s t : Sl, e = .returned (.tuple #[slV s, slV t, .bool (atOk p N)]) ∧ Own w' w.heap.size s.1 s.2.1 s.2.2 (atL p N) ∧ Own w' w.heap.size t.1 t.2.1 t.2.2 (atS p N) ∧ ∀ g, (slV s).ownBlock = some g → (slV t).ownBlock ≠ some g
theorem wide_of_max {p : Prg} (h : codeB p = 0) : ∀ m ∈ maxesP p, 0 ≤ m ∧ m ≤ 255 := by
  intro m hm
  obtain ⟨i, hi, rfl⟩ := List.getElem_of_mem hm
  have := (code_max h).2 i hi
  simpa [List.getD_eq_getElem?_getD, List.getElem?_eq_getElem hi] using this
theorem inRound_held {P : Program} {S : World → Prop} {id l m : Nat} {Q : Exit → Act → World → Prop} {a : Act} {w : World} {L : List Oper} (hm : P.follows .mixedOrders = true) (hd : (L.all fun o => match o.op with | .defer _ => false | _ => true) = true) (hQ : ¬ LetsOut Q)
    (h : wpAnyH P .any L.toArray Q S L.toArray.size (Array.replicate L.toArray.size false) a { w with drawn := w.drawn + 1 }) : (Code.region id L.toArray true).wpIn (Fence.wide.inRound l) m P Q a w := by
  refine wpIn_region_any hm (anyIn_of (fun j o ho c e => ?_) hQ _ _ _ _ (wpAny_of_held _ _ _ _ h))
  have hmem : o ∈ L := by have := Array.mem_of_getElem? ho; simpa using this
  have := List.all_eq_true.1 hd o hmem
  rw [e] at this
  cases this
/-- How its loop is left by the return within. -/
def StopAt (k : Nat) (w W0 : World) (p : Prg) (N : Int) (c : Code) (m : Nat) (W : World) : Prop :=
  c = .ret ∧ ∃ s t : Sl, Blk W (k + 1 + 1) 28 [slV s] ∧ Blk W (k + 1 + 1 + 1) 28 [slV t] ∧ Blk W (k + 1 + 1 + 1 + 1) 4 [.bool true] ∧ Own W m s.1 s.2.1 s.2.2 (atL p N) ∧ Own W m t.1 t.2.1 t.2.2 (atS p N) ∧ (∀ g, (slV s).ownBlock = some g → (slV t).ownBlock ≠ some g) ∧ atOk p N = true ∧ W0.heap.size ≤ W.heap.size ∧ Below w.heap.size w W ∧ W0.heap.size ≤ m
/-- Between two rounds. -/
def GoAt (W0 : World) (N : Int) (m : Nat) (pre : List EIn) (W : World) : Prop := (∀ x ∈ pre, (x.k : Int) ≠ N) ∧ m ≤ W.heap.size ∧ W0.heap.size ≤ m ∧ Below W0.heap.size W0 W
theorem belA {w w' : World} {o : Obj} (h : Below w.heap.size w w') : Below w.heap.size w (w'.alloc o) := h.alloc h.size _
end Go.Proofs.YtmooecbdpfhnlaaGreat
/- The contracts of the model's l7Maxes, l7Count, InputsIn and BitsIn. -/
namespace Go.Proofs.YtmooecbdpfhnlaaGreat
open Go.RowKit

theorem maxes_succ {ts : List Tm} {k : Nat} {x y : Int} (hk : k < ts.length) (hz : Hid (tmAt ts k = (x, y))) : maxesL (ts.take (k + 1)) = maxesL (ts.take k) ++ [x] := by
  have e : ts[k] = (x, y) := by have := hz.out; simpa [tmAt, List.getD_eq_getElem?_getD, List.getElem?_eq_getElem hk] using this
  simp [maxesL, List.take_add_one, List.getElem?_eq_getElem hk, e]
set_option maxHeartbeats 1600000 in
theorem l7Maxes_any (r : PRow) (p : Prg) (w : World) (h : ProgAt w r p) (hl1 : p.lows.length ≤ 3) (hl2 : p.secrets.length ≤ 3) :
    Calls Tryz.prog 55 #[progV r] w (MadeInts w (maxesP p)) := by
  obtain ⟨wd, ⟨a1, n1, c1⟩, ⟨a2, n2, c2⟩, tp, ⟨a3, n3, c3⟩, ⟨a4, n4, c4⟩, rows⟩ := r
  show Calls Tryz.prog 55 #[.agg #[.int .i64 wd, .slice a1 n1 c1, .slice a2 n2 c2, .int .i64 tp, .slice a3 n3 c3, .slice a4 n4 c4]] w _
  have h1 := h.lows
  have h2 := h.secrets
  simp only [] at h1 h2
  have L1 := Lib.hid h1.1
  have L2 := Lib.hid h2.1
  have hn1 : n1 ≤ 3 := by rw [← L1.out]; exact hl1
  have hn2 : n2 ≤ 3 := by rw [← L2.out]; exact hl2
  have H1 := Lib.hid h1
  have H2 := Lib.hid h2
  clear h h1 h2 hl1 hl2
  obtain ⟨wa, HW⟩ : ∃ wa, Hid (wa = w.alloc (.cells #[.int .i64 wd, .slice a1 n1 c1, .slice a2 n2 c2, .int .i64 tp, .slice a3 n3 c3, .slice a4 n4 c4] 31)) := ⟨_, rfl⟩
  have BX : Blk wa w.heap.size 31 [.int .i64 wd, .slice a1 n1 c1, .slice a2 n2 c2, .int .i64 tp, .slice a3 n3 c3, .slice a4 n4 c4] := by rw [HW.out]; exact Blk.new w _ _
  have HB : Below w.heap.size w wa := by rw [HW.out]; exact (Below.refl _ _).alloc (Nat.le_refl _) _
  have H1 := Lib.hid (H1.out.below (Nat.le_refl _) HB)
  have H2 := Lib.hid (H2.out.below (Nat.le_refl _) HB)
  have HX := Lib.hid BX
  have HSZ : Hid (wa.heap.size = w.heap.size + 1) := Lib.hid (by rw [HW.out]; simp)
  clear BX
  go_enter Tryz.func55, Tryz.ntmps55
  go_wp2_with fail
  rw [← HW.out]
  go_loopw [3, 4] (fun v i wr => ∃ (k : Nat) (a : Option Addr) (c : Nat), k ≤ n1 ∧ i = .int .i64 k ∧ v = .slice a k c ∧ Own wr wa.heap.size a k c (maxesL (p.lows.take k)) ∧ Below wa.heap.size wa wr) (fun _ i _ => n1 - (intOf i).toNat)
  case atStart => exact ⟨0, _, _, by omega, rfl, rfl, by have := own_empty wa wa.heap.size (Nat.le_refl _); simpa [HSZ.out, maxesL] using this, (Below.refl _ _).alloc (Nat.le_refl _) _⟩
  case round =>
    obtain ⟨k, a, c, hk, rfl, rfl, hown, hbel⟩ := hrel
    have hbs := hbel.size
    have t1 := (HX.out.below hbel HX.out.lt).cell (j := 1) rfl
    by_cases hlt : k < n1
    · obtain ⟨b, o, x, y, rfl, hb, hz, hin1, hin2, hc1, hc2⟩ := (H1.out.below (Nat.le_refl _) hbel).at_ hlt
      clear hc2 hin2
      go_wp2_with (at_builtin; refine wpList_push _ rfl _ _ rfl wa.heap.size _ _ _ (maxesL (p.lows.take k)) rfl (hown.alloc _) wr.heap.size x rfl (by simp) hin1 (by omega) (by simp; omega) ?_)
      intro a8 c8 w8 hown8 hg8
      have hb8 := below_push (hbel.alloc hbs _) (hown.alloc _) (by simp; omega) hg8
      rw [← maxes_succ (by rw [L1.out]; exact hlt) hz] at hown8
      clear hown hg8 hbel t1 hc1
      go_wp2
      go_roundw
      case rel => exact ⟨k + 1, a8, c8, by omega, by go_num, rfl, hown8, hb8⟩
      case measure => simp [intOf]; omega
    · obtain rfl : n1 = k := by omega
      have HO : Hid (Own wr wa.heap.size a n1 c (maxesL p.lows ++ maxesL (p.secrets.take 0))) := Lib.hid (by
        rw [List.take_of_length_le (by rw [L1.out]; exact Nat.le_refl _)] at hown
        simpa [maxesL] using hown)
      have HBE := Lib.hid hbel
      clear hown hbel
      go_wp2_with fail
      go_loopw [3, 5] (fun v i wr => ∃ (k : Nat) (a : Option Addr) (c : Nat), k ≤ n2 ∧ i = .int .i64 k ∧ v = .slice a (n1 + k) c ∧ Own wr wa.heap.size a (n1 + k) c (maxesL p.lows ++ maxesL (p.secrets.take k)) ∧ Below wa.heap.size wa wr) (fun _ i _ => n2 - (intOf i).toNat)
      case atStart => exact ⟨0, _, _, by omega, rfl, rfl, HO.out, HBE.out⟩
      case round =>
        clear HO HBE t1
        obtain ⟨k, a, c, hk, rfl, rfl, hown, hbel⟩ := hrel
        have hbs := hbel.size
        have t2 := (HX.out.below hbel HX.out.lt).cell (j := 2) rfl
        by_cases hlt : k < n2
        · obtain ⟨b, o, x, y, rfl, hb, hz, hin1, hin2, hc1, hc2⟩ := (H2.out.below (Nat.le_refl _) hbel).at_ hlt
          clear hc2 hin2
          go_wp2_with (at_builtin; refine wpList_push _ rfl _ _ rfl wa.heap.size _ _ _ (maxesL p.lows ++ maxesL (p.secrets.take k)) rfl (hown.alloc _) wr.heap.size x rfl (by simp) hin1 (by omega) (by simp; omega) ?_)
          intro a8 c8 w8 hown8 hg8
          have hb8 := below_push (hbel.alloc hbs _) (hown.alloc _) (by simp; omega) hg8
          rw [← maxes_succ (by rw [L2.out]; exact hlt) hz] at hown8
          clear hown hg8 hbel t2 hc1
          go_wp2
          go_roundw
          case rel => exact ⟨k + 1, a8, c8, by omega, by go_num, rfl, hown8, hb8⟩
          case measure => simp [intOf]; omega
        · obtain rfl : n2 = k := by omega
          rw [List.take_of_length_le (by rw [L2.out]; exact Nat.le_refl _), show maxesL p.lows ++ maxesL p.secrets = maxesP p by simp [maxesP, maxesL]] at hown
          have hown := hown.base HB.size
          have hbel := HB.trans (hbel.mono HB.size)
          go_wp2
          go_ret
          exact ⟨_, _, _, rfl, hown, hbel⟩
set_option maxHeartbeats 800000 in
theorem l7Count_any (a : Option Addr) (n c : Nat) (ms : List Int) (w : World) (h : Ints w a n ms) (hm : MaxOk ms) :
    Calls Tryz.prog 54 #[.slice a n c] w fun e w' => e = .returned (.int .i64 (countTo ms ms.length)) ∧ w = w' := by
  have HL := Lib.hid h.1
  have HM := Lib.hid hm
  have hn : n ≤ 6 := by rw [← HL.out]; exact hm.1
  clear hm
  go_enter Tryz.func54, Tryz.ntmps54
  go_wp2
  go_loop [3, 4] (fun q i => ∃ k : Nat, k ≤ n ∧ i = .int .i64 (k : Int) ∧ q = .int .i64 (countTo ms k)) (fun _ i => n - (intOf i).toNat)
  case atStart => exact ⟨0, Nat.zero_le _, rfl, rfl⟩
  case round =>
    obtain ⟨k, hk, rfl, rfl⟩ := hrel
    by_cases hlt : k < n
    · obtain ⟨b, o, z, rfl, hb, hz, hin, hc⟩ := h.at_ hlt
      obtain ⟨p1, p2⟩ := countTo_pos HM.out k (by rw [HL.out]; omega)
      obtain ⟨p3, p4⟩ := countTo_pos HM.out (k + 1) (by rw [HL.out]; omega)
      obtain ⟨z1, z2⟩ := HM.out.2 k (by rw [HL.out]; exact hlt)
      rw [← hz.out] at z1 z2
      have q1 : 256 ^ k ≤ 256 ^ 6 := Nat.pow_le_pow_right (by omega) (by omega)
      have q2 : 256 ^ (k + 1) ≤ 256 ^ 6 := Nat.pow_le_pow_right (by omega) (by omega)
      have HS : Hid (countTo ms (k + 1) = countTo ms k * (z + 1)) := Lib.hid (by rw [countTo, hz.out])
      rw [HS.out] at p3 p4
      have b2 : countTo ms k ≤ 281474976710656 := by omega
      have b4 : countTo ms k * (z + 1) ≤ 281474976710656 := by omega
      clear p2 p4 q1 q2
      generalize countTo ms k = Q at p1 p3 b2 b4 HS ⊢
      go_wp2
      go_round
      case rel => exact ⟨k + 1, by omega, by go_num, by rw [HS.out]⟩
      case measure => simp [intOf]; omega
    · obtain rfl : n = k := by omega
      go_wp2
      go_ret
      exact ⟨ret_int (by rw [HL.out]), rfl⟩
end Go.Proofs.YtmooecbdpfhnlaaGreat
/- The contract of the model's InputAt. -/
namespace Go.Proofs.YtmooecbdpfhnlaaGreat
open Go.RowKit

/-- What an append onto an empty literal at block b leaves: nothing, or a row there or behind N. -/
def Fix (w : World) (N b : Nat) (a : Option Addr) (m c : Nat) (ys : List Int) : Prop := m ≤ 1048576 ∧ ((m = 0 ∧ ys = []) ∨ ∃ g, a = some ⟨g, 0, none⟩ ∧ Own w 0 a m c ys ∧ (g = b ∨ N ≤ g))
theorem Fix.ints {w : World} {N b m c : Nat} {a : Option Addr} {ys : List Int} (h : Fix w N b a m c ys) : Ints w a m ys := by
  rcases h with ⟨_, ⟨rfl, rfl⟩ | ⟨g, rfl, ho, _⟩⟩
  · exact ⟨rfl, by omega, fun z hz => (by cases hz), fun hp => absurd hp (by omega)⟩
  · exact ho.ints
theorem Fix.below {w w' : World} {N b m c : Nat} {a : Option Addr} {ys : List Int} (h : Fix w N b a m c ys) (hb : Below w.heap.size w w') : Fix w' N b a m c ys := by
  rcases h with ⟨hm, h | ⟨g, hg, ho, hl⟩⟩
  · exact ⟨hm, .inl h⟩
  · exact ⟨hm, .inr ⟨g, hg, ho.below hb, hl⟩⟩
theorem Fix.other {w w' : World} {N b b' m c : Nat} {a : Option Addr} {ys : List Int} (h : Fix w N b a m c ys) (hg : w.grownBy w' (some b')) (hb : b' ≠ b) (hN : b' < N ∨ w.heap.size ≤ b') : Fix w' N b a m c ys := by
  rcases h with ⟨hm, h | ⟨g, rfl, ho, hl⟩⟩
  · exact ⟨hm, .inl h⟩
  · refine ⟨hm, .inr ⟨g, rfl, ho.keep hg (fun g' hg' e => ?_), hl⟩⟩
    have hg'' : some g = some g' := hg'
    injection hg'' with hg''
    injection e with e
    have := (ho.block g rfl).2
    omega
theorem belN {w w' : World} (h : Below w.heap.size w w') : Below w.heap.size w w'.drew := ⟨h.os, h.tape, h.output, h.size, h.block⟩
/-- What the model's InputAt leaves. -/
def AtSaid (w : World) (p : Prg) (N : Int) (e : Ending) (w' : World) : Prop :=
  Below w.heap.size w w' ∧ ∃ s t : Sl, e = .returned (.tuple #[slV s, slV t, .bool (atOk p N)]) ∧ Ints w' s.1 s.2.1 (atL p N) ∧ Ints w' t.1 t.2.1 (atS p N)
theorem l1In_any (x lo hi : Int) (w : World) : Calls Tryz.prog 71 #[.int .i64 x, .int .i64 lo, .int .i64 hi] w fun e w' => e = .returned (.bool (decide (lo ≤ x) && decide (x ≤ hi))) ∧ w' = w := by
  obtain ⟨R, HR⟩ : ∃ R, Hid ((decide (lo ≤ x) && decide (x ≤ hi)) = R) := ⟨_, rfl⟩
  rw [HR.out]
  go_enter Tryz.func71, Tryz.ntmps71
  by_cases h1 : lo ≤ x
  · by_cases h2 : x ≤ hi
    · obtain rfl : R = true := by rw [← HR.out, decide_eq_true h1, decide_eq_true h2]; rfl
      go_wp2
      go_ret
      exact ⟨rfl, rfl⟩
    · obtain rfl : R = false := by rw [← HR.out, decide_eq_false h2, Bool.and_false]
      go_wp2
      go_ret
      exact ⟨rfl, rfl⟩
  · obtain rfl : R = false := by rw [← HR.out, decide_eq_false h1, Bool.false_and]
    go_wp2
    go_ret
    exact ⟨rfl, rfl⟩
end Go.Proofs.YtmooecbdpfhnlaaGreat
/- The contract of the model's l6Of. -/
namespace Go.Proofs.YtmooecbdpfhnlaaGreat
open Go.RowKit

/-- A call of l6Of under way, its boxes in wa: the environment's box. -/
structure OB (wa wi : World) (b : Nat) (er : ERow) (q : Sta) : Prop where
  out : Blk wi b 90 [slV er.vars, slV er.cells]
  mem : EnvMem wi wa.heap.size er (none, 0, 0) q
  bel : Below wa.heap.size wa wi
  kb : wa.heap.size ≤ b
section
variable {w wi wj wk : World} {b : Nat} {er : ERow} {q : Sta}
theorem OB.below (h : OB w wi b er q) (hb : Below wi.heap.size wi wj) : OB w wj b er q :=
  ⟨h.out.below hb h.out.lt, h.mem.below hb, h.bel.trans (hb.mono h.bel.size), h.kb⟩
theorem OB.alloc (h : OB w wi b er q) (o : Obj) : OB w (wi.alloc o) b er q := h.below ((Below.refl _ _).alloc (Nat.le_refl _) o)
theorem OB.row {a1 : Option Addr} {c1 : Nat} {zs : List Int} {r : Sl} (h : OB w wi b er q) (hb : Below wi.heap.size wi wj) (hr : Own wj wi.heap.size r.1 r.2.1 r.2.2 zs)
    (ho : wk.ownsRow w.heap.size 28 1 (.slice a1 (er.cells.2.1 + 1) c1) (er.cells.2.1 + 1) ((er.rows ++ [r]).map slV)) (hn : er.cells.2.1 < 1048576) (hg : wj.grownBy wk (slV er.cells).ownBlock) :
    OB w (wk.setCell ⟨b, 1, none⟩ (.slice a1 (er.cells.2.1 + 1) c1)) b ⟨er.vars, (a1, er.cells.2.1 + 1, c1), er.rows ++ [r]⟩ ⟨q.vars, q.cells ++ [zs], q.outs⟩ := by
  have kb := h.kb
  have h2 := h.below hb
  have o1 := blk_row h2.out h2.mem.cells.1 (by decide) hg
  refine ⟨o1.set (j := 1) _, (h.mem.row hb h.bel.size hr (cs' := (a1, er.cells.2.1 + 1, c1)) ho rfl hn hg).set o1 (by decide) (by decide) _, ?_, kb⟩
  exact below_set (h2.bel.grown hg h2.bel.size (fun g e => (h2.mem.cells.1.lt g e).1)) (by omega) _
end
/-- Nothing but variables. -/
theorem envMem_vars {w : World} {B : Nat} {v : Sl} {zs : List Int} (h : Own w B v.1 v.2.1 v.2.2 zs) : EnvMem w B ⟨v, (none, 0, 0), []⟩ (none, 0, 0) ⟨zs, [], []⟩ :=
  ⟨h, ⟨World.ownsRow_nil _ _ _ _, Nat.zero_le _, rfl, fun i hi => absurd hi (by simp only []; omega)⟩, own_nil _ _, fun g _ e => by simp [slV, Value.ownBlock] at e, fun i g hi => absurd hi (by simp only []; omega), fun i g hi => absurd hi (by simp only []; omega), fun i j g hi => absurd hi (by simp only []; omega)⟩
/-- An outcome is told. -/
def AnsO (w : World) (zs : List Int) (rr : Rz) (e : Ending) (w' : World) : Prop :=
  Below w.heap.size w w' ∧ ∃ os : Sl, e = .returned (.agg #[slV os, .int .i64 rr.1, .int .i64 rr.2]) ∧ Own w' w.heap.size os.1 os.2.1 os.2.2 zs
theorem belK {w w' w'' : World} {B : Nat} {row : Option Nat} (h : Below B w w') (hg : w'.grownBy w'' row) (hB : B ≤ w'.heap.size) (hr : ∀ k, row = some k → B ≤ k) : Below B w w'' := h.grown hg hB hr
theorem cell_after {w8 : World} {k j : Nat} {v : Value} (h : w8.cell? ⟨k, j, none⟩ = some v) (o : Obj) : (w8.alloc o).cell? ⟨k, j, none⟩ = some v := by
  have hk : k < w8.heap.size := by
    rcases Nat.lt_or_ge k w8.heap.size with h' | h'
    · exact h'
    · simp [World.cell?, Array.getElem?_eq_none h'] at h
  exact ((belA (Below.refl _ w8)).cell hk).trans h
theorem blk_new1 (W : World) (o : Obj) (t : TypeId) (xs : List Value) : Blk ((W.alloc o).alloc (.cells xs.toArray t)) (W.heap.size + 1) t xs := by simpa using Blk.new (W.alloc o) t xs
theorem env_after {w8 w9 W : World} {B : Nat} {a : Option Addr} {n c : Nat} {zs : List Int} {xs : List Value} (hg : W.grownBy w9 (Value.slice a n c).ownBlock) (x : Own w8 B a n c zs) (hW : Blk W w8.heap.size 90 xs) : Blk w9 w8.heap.size 90 xs :=
  blk_keep hW hg (fun e => by have := (x.block _ e).2; omega)
theorem env_kept {w9 W : World} {B eb : Nat} {a : Option Addr} {n c : Nat} {zs : List Int} {xs : List Value} (hg : W.grownBy w9 (Value.slice a n c).ownBlock) (x : Own W B a n c zs) (hW : Blk W eb 90 xs) : Blk w9 eb 90 xs :=
  blk_row hW x.1 (by decide) hg
/-- Behind the two appends: the environment's box is new, or filled now. -/
theorem ob_new {wa w9 : World} {a9 : Option Addr} {m k9 : Nat} {zs : List Int} (hb : Below wa.heap.size wa w9) (x : Own w9 wa.heap.size a9 m k9 zs) :
    OB wa (w9.alloc (.cells #[.slice a9 m k9, .slice none 0 0] 90)) w9.heap.size ⟨(a9, m, k9), (none, 0, 0), []⟩ ⟨zs, [], []⟩ :=
  ⟨Blk.new w9 _ _, (envMem_vars (v := (a9, m, k9)) x).alloc _, belA hb, hb.size⟩
theorem ob_set {wa w9 : World} {a9 : Option Addr} {m k9 eb : Nat} {zs : List Int} (hb : Below wa.heap.size wa w9) (x : Own w9 wa.heap.size a9 m k9 zs)
    (he : Blk w9 eb 90 [.slice none 0 0, .slice none 0 0]) (hw : wa.heap.size ≤ eb) :
    OB wa ((w9.setCell ⟨eb, 0, none⟩ (.slice a9 m k9)).setCell ⟨eb, 1, none⟩ (.slice none 0 0)) eb ⟨(a9, m, k9), (none, 0, 0), []⟩ ⟨zs, [], []⟩ := by
  have e1 := he.set (j := 0) (.slice a9 m k9)
  have e2 := e1.set (j := 1) (.slice none 0 0)
  exact ⟨e2, ((envMem_vars (v := (a9, m, k9)) x).set he (by decide) (by decide) _).set e1 (by decide) (by decide) _, below_set (below_set hb hw _) hw _, hw⟩
set_option maxRecDepth 100000 in
set_option maxHeartbeats 6400000 in
theorem l6Of_any (r : PRow) (p : Prg) (a : Option Addr) (n c : Nat) (ls ss : List Int) (w : World) (h : ProgAt w r p) (h1 : Ints w a n (ls ++ ss)) (h0 : startB p ls ss = true) :
    Calls Tryz.prog 113 #[progV r, .slice a n c] w (AnsO w (outR p ls ss) (endR p ls ss)) := by
  unfold outR endR
  obtain ⟨s, hs, hrun⟩ := runX_spec h0
  have hc0 := startB_ok h0
  have hst := start_ok h0
  have hlen : p.body.length = r.body.2.1 := h.body.2.1
  have HR : Hid (∀ (wb w' : World) (b : Nat) (er : ERow), Below w.heap.size w wb → SB wb w' b r er (none, 0, 0) (startQ p ls ss) (0, 0) → Calls Tryz.prog 106 #[.pointer (some ⟨b, 0, none⟩), .int .i64 0, .int .i64 (r.body.2.1 : Int)] w' fun e w'' => e = .returned (.tuple #[]) ∧ ∃ os', SB wb w'' b r er os' (runX p ls ss).1 (runX p ls ss).2) := Lib.hid (fun wb w' b er hbw hsb => by
    rw [← hlen]
    exact srun_all p r er b wb hc0 (h.below hbw) p.body.length 0 (by omega) p.body.length s w' (none, 0, 0) (startQ p ls ss) _ _ (Nat.le_refl _) hsb hst (by simp [startQ]; omega) hrun)
  have hhd := code_head hc0
  have HAZ : Hid (∀ k, k < p.arrays.length → 1 ≤ p.arrays.getD k 0 ∧ p.arrays.getD k 0 ≤ 6) := Lib.hid (fun k hk => by
    have hrm := (code_parts hc0).2
    simp only [roomB, Bool.and_eq_true, decide_eq_true_eq, List.all_eq_true] at hrm
    exact hrm.2 _ (getD_mem hk))
  obtain ⟨T, hT⟩ : ∃ T : Nat, p.temps = (T : Int) := ⟨p.temps.toNat, by omega⟩
  have hT6 : T ≤ 6 := by omega
  have HTP : Hid (r.temps = (T : Int)) := Lib.hid (by rw [← hT]; exact h.temps)
  have HAR := Lib.hid h.arrays
  have HAL := Lib.hid h.arrays.1
  have hal2 : p.arrays.length ≤ 2 := by omega
  have HQS : Hid (∀ k, k = p.arrays.length → startQ p ls ss = ⟨ls ++ ss ++ List.replicate T 0, zeroTo p k, []⟩) := Lib.hid (fun k hk => by rw [zeroTo_all hk.symm, startQ, hT]; rfl)
  obtain ⟨q0, HQ0⟩ : ∃ q, Hid (startQ p ls ss = q) := ⟨_, Lib.hid rfl⟩
  obtain ⟨Q, HQ⟩ : ∃ Q, Hid (runX p ls ss = Q) := ⟨_, Lib.hid rfl⟩
  rw [HQ0.out] at HR HQS
  rw [HQ.out] at HR ⊢
  obtain ⟨Q1, en, co⟩ := Q
  have HMK := Lib.hid (fun (M : Nat) (hM : M ≤ 6) (w : World) => make_row M (by omega) w)
  have hin6 : n ≤ 1000 := by
    have l1 : (ls ++ ss).length = n := h1.1
    have hb := h0
    simp only [startB, Bool.and_eq_true] at hb
    have := (areB_ok hb.2.1).1
    have := (areB_ok hb.2.2).1
    rw [List.length_append] at l1
    omega
  have HI := Lib.hid h1
  clear h h1 h0 hrun hc0 hst hhd hs hlen hT HQ HQ0
  obtain ⟨zs, HZS⟩ : ∃ zs, Hid (ls ++ ss = zs) := ⟨_, Lib.hid rfl⟩
  rw [HZS.out] at HI HQS
  obtain ⟨wd, ⟨a1, n1, c1⟩, ⟨a2, n2, c2⟩, tp, ⟨a3, n3, c3⟩, ⟨a4, n4, c4⟩, rows⟩ := r
  simp only [] at HR HTP HAR HAL
  obtain rfl := HTP.out
  show Calls Tryz.prog 113 #[.agg #[.int .i64 wd, .slice a1 n1 c1, .slice a2 n2 c2, .int .i64 (T : Int), .slice a3 n3 c3, .slice a4 n4 c4], .slice a n c] w _
  obtain ⟨wa, HW⟩ : ∃ wa, Hid (wa = (w.alloc (.cells #[.int .i64 wd, .slice a1 n1 c1, .slice a2 n2 c2, .int .i64 (T : Int), .slice a3 n3 c3, .slice a4 n4 c4] 31)).alloc (.cells #[.slice none 0 0, .int .i64 0, .int .i64 0] 43)) := ⟨_, rfl⟩
  have NX : TwoB w wa 31 [.int .i64 wd, .slice a1 n1 c1, .slice a2 n2 c2, .int .i64 (T : Int), .slice a3 n3 c3, .slice a4 n4 c4] 43 [.slice none 0 0, .int .i64 0, .int .i64 0] := by rw [HW.out]; exact twob_new w _ _ _ _
  have HNX := Lib.hid NX
  have HI2 : Hid (∀ w', Below wa.heap.size wa w' → Ints w' a n zs) := Lib.hid (fun w' hb => (HI.out.below NX.bel).below hb)
  have HLT : Hid (w.heap.size + 2 ≤ wa.heap.size) := Lib.hid NX.lt
  have t3 := NX.arg.cell (j := 3) rfl
  clear NX HI
  go_enter Tryz.func113, Tryz.ntmps113
  go_upto_region 1 with fail
  rw [← HW.out]
  clear HW
  go_cut [5] (fun t5 wx => ∃ (eb : Nat) (va : Option Addr) (vc : Nat), t5 = .pointer (some ⟨eb, 0, none⟩) ∧ OB wa wx eb ⟨(va, n + T, vc), (none, 0, 0), []⟩ ⟨zs ++ List.replicate T 0, [], []⟩)
  case first =>
    have c3 := cell_after t3 (.cells #[] 2)
    have c4 := cell_after t3 (.cells #[.slice none 0 0, .slice none 0 0] 90)
    have c5 := cell_after c3 (.cells #[.slice none 0 0, .slice none 0 0] 90)
    have c6 := cell_after c4 (.cells #[] 2)
    go_region_law (first
      | (refine step_ints _ (by rfl) _ _ (by rfl) wa.heap.size _ 0 0 [] (by rfl) (by have := HLT.out; first | exact own_emptyB _ _ _ rfl (by omega) | exact own_drew (own_emptyB _ _ _ rfl (by omega)) | exact (own_emptyB _ _ _ rfl (by omega)).alloc _ | exact own_drew ((own_emptyB _ _ _ rfl (by omega)).alloc _) | exact own_emptyB _ _ _ (by simp) (by omega) | exact own_drew (own_emptyB _ _ _ (by simp) (by omega))) _ n c zs (by rfl) (HI2.out _ (by repeat' (first | exact Below.refl _ _ | refine belA ?_ | refine belN ?_))) (by omega) (by first | (simp; done) | (simp; omega)) ?_; intro a8 k8 w8 x8 y8; have x8 := own_zero x8
         have z8 : w8.cell? ⟨w.heap.size, 3, none⟩ = some (.int .i64 (T : Int)) := y8.cell (by first | exact cell_after t3 _ | exact cell_after (cell_after t3 _) _) (by have := HLT.out; simp [Value.ownBlock]; omega)
         have z8b := cell_after z8 (.cells #[.slice none 0 0, .slice none 0 0] 90)
         have hb8 : Below wa.heap.size wa w8 := belK (by repeat' (first | exact Below.refl _ _ | refine belA ?_ | refine belN ?_)) y8 (by first | (simp; done) | (simp; omega)) (by simp [Value.ownBlock])
         try (have b8 := blk_keep (b := wa.heap.size + 1) (t := 90) (xs := [.slice none 0 0, .slice none 0 0]) (by exact blk_new1 wa _ _ _) y8 (by simp [Value.ownBlock]))
         try (have b8 := blk_keep (b := wa.heap.size) (t := 90) (xs := [.slice none 0 0, .slice none 0 0]) (by exact (Blk.new wa _ _).alloc _) y8 (by simp [Value.ownBlock])))
      | (refine step_zeros _ (by rfl) _ _ (by rfl) wa.heap.size _ _ _ _ (by rfl) (by first | exact x8 | exact own_drew x8 | exact x8.alloc _ | exact own_drew (x8.alloc _)) T (by rfl) (by omega) (by have := hb8.size; have := HLT.out; first | omega | (simp at this ⊢; omega) | (simp; omega)) ?_; intro a9 k9 w9 x9 y9
         have hb9 : Below wa.heap.size wa w9 := belK (by first | exact hb8 | exact belN hb8 | exact belA hb8 | exact belN (belA hb8)) y9 (by have := hb8.size; first | omega | (simp; omega)) (fun g e => (x8.block g e).1)
         try (have bx := env_after y9 x8 (by exact Blk.new w8 _ _); have e0 := bx.cell (j := 0) rfl; have e1 := bx.cell (j := 1) rfl; have f0 := bx.frozen 0; have f1 := bx.frozen 1)
         try (have bx := env_kept y9 x8 b8; have e0 := bx.cell (j := 0) rfl; have e1 := bx.cell (j := 1) rfl; have f0 := bx.frozen 0; have f1 := bx.frozen 1)))
    all_goals
      go_wp2_with fail
      go_meet
      first
        | exact ⟨_, _, _, rfl, ob_new hb9 x9⟩
        | exact ⟨_, _, _, rfl, ob_set hb9 x9 bx (by first | omega | (have := hb8.size; omega))⟩
  case rest =>
    obtain ⟨eb, va, vc, rfl, HQ⟩ := hcut
    have HARA : Hid (Ints wa a3 n3 p.arrays) := Lib.hid (HAR.out.below HNX.out.bel)
    clear t3 HI2
    have hn5 : n3 ≤ 2 := by have := HAL.out; omega
    obtain ⟨vn, HVN⟩ : ∃ vn, Hid (n + T = vn) := ⟨_, rfl⟩
    rw [HVN.out] at HQ
    have HREL : Hid (∃ (ca : Option Addr) (cc : Nat) (rws : List Sl), OB wa wc eb ⟨(va, vn, vc), (ca, 0, cc), rws⟩ ⟨zs ++ List.replicate T 0, zeroTo p 0, []⟩) := Lib.hid ⟨_, _, _, HQ⟩
    clear HQ HVN
    go_wp2_with fail
    go_loopw [6] (fun i wr => ∃ (k : Nat) (ca : Option Addr) (cc : Nat) (rws : List Sl), k ≤ n3 ∧ i = .int .i64 (k : Int) ∧ OB wa wr eb ⟨(va, vn, vc), (ca, k, cc), rws⟩ ⟨zs ++ List.replicate T 0, zeroTo p k, []⟩) (fun i _ => n3 - (intOf i).toNat)
    case atStart => obtain ⟨ca, cc, rws, hq⟩ := HREL.out; exact ⟨0, ca, cc, rws, Nat.zero_le _, rfl, hq⟩
    case round =>
      clear HREL
      obtain ⟨k, ca, cc, rws, hk, rfl, HQ⟩ := hrel
      have hnx := HNX.out.below (show Below wa.heap.size wa wr from HQ.bel)
      have g4 := hnx.arg.cell (j := 4) rfl
      by_cases hlt : k < n3
      · obtain ⟨b3, o3, z, rfl, hb3, hz3, hin3, hc3⟩ := (HARA.out.below HQ.bel).at_ hlt
        obtain ⟨z1, z2⟩ := HAZ.out k (by rw [HAL.out]; exact hlt)
        rw [← hz3.out] at z1 z2
        obtain ⟨M, rfl⟩ : ∃ M : Nat, z = (M : Int) := ⟨z.toNat, by omega⟩
        have hM6 : M ≤ 6 := by omega
        have HZ := Lib.hid (zeroTo_succ (by rw [HAL.out]; exact hlt) hz3)
        have hmk2 := HMK.out M hM6
        have hd : Below wr.heap.size wr wr.drew := ⟨rfl, rfl, rfl, Nat.le_refl _, fun _ _ => rfl⟩
        have HG0 := Lib.hid (HQ.below hd)
        have u1 := HQ.out.cell (j := 1) rfl
        have uf := HQ.out.frozen 1
        have v1 := (HQ.alloc (.cells (madeCells #[.int .i64 0] M) 2)).out.cell (j := 1) rfl
        have v2 := ((HQ.alloc (.cells (madeCells #[.int .i64 0] M) 2)).alloc (.cells #[.slice (some ⟨wr.heap.size, 0, none⟩) M M] 28)).out.cell (j := 1) rfl
        simp only [slV] at u1 v1 v2
        clear HQ hz3 z1 z2 hin3 hd hnx
        go_wp2_with fail
        go_region_law (refine step_pushR _ (by rfl) _ _ (by rfl) wa.heap.size ca k cc rws (by rfl) (by exact (HG0.out.mem.cells.1.alloc _).alloc _) (wr.heap.size + 1) (some ⟨wr.heap.size, 0, none⟩, M, M) (by rfl) (by simp [slV]) (by omega) (by have := HG0.out.bel.size; simp at this ⊢; omega) ?_; intro a9 c9 w9 ho9 hg9; have Q1 := HG0.out.row (wj := (wr.drew.alloc (.cells (madeCells #[.int .i64 0] M) 2)).alloc (.cells #[.slice (some ⟨wr.heap.size, 0, none⟩) M M] 28)) (((Below.refl _ _).alloc (Nat.le_refl _) _).alloc (by simp) _) (r := (some ⟨wr.heap.size, 0, none⟩, M, M)) ((own_made wr.drew M (by omega)).alloc _) ho9 (by simp only []; omega) hg9.1; have y0 := (blk_row ((HG0.out.alloc _).alloc _).out ((HG0.out.alloc _).alloc _).mem.cells.1 (by decide) hg9.1).cell (j := 1) rfl; have yf := (blk_row ((HG0.out.alloc _).alloc _).out ((HG0.out.alloc _).alloc _).mem.cells.1 (by decide) hg9.1).frozen 1; simp only [slV] at y0)
        all_goals
          have HQ1 : Hid (OB wa (w9.setCell ⟨eb, 1, none⟩ (.slice a9 (k + 1) c9)) eb ⟨(va, vn, vc), (a9, k + 1, c9), rws ++ [(some ⟨wr.heap.size, 0, none⟩, M, M)]⟩ ⟨zs ++ List.replicate T 0, zeroTo p (k + 1), []⟩) := Lib.hid (by rw [HZ.out, Int.toNat_natCast]; exact Q1)
          clear Q1 y0 yf ho9 hg9 u1 v1 v2 uf HG0 hmk2 hc3 g4
          go_wp2
          go_roundw
          case rel => exact ⟨k + 1, a9, c9, _, by omega, by go_num, HQ1.out⟩
          case measure => simp [intOf]; omega
      · obtain rfl : n3 = k := by omega
        have hqs := HQS.out n3 HAL.out.symm
        rw [← hqs] at HQ
        have e0 := HQ.out.cell (j := 0) rfl
        have e1 := HQ.out.cell (j := 1) rfl
        have p0 := hnx.arg.cell (j := 0) rfl
        have p1 := hnx.arg.cell (j := 1) rfl
        have p2 := hnx.arg.cell (j := 2) rfl
        have p3 := hnx.arg.cell (j := 3) rfl
        have p5 := hnx.arg.cell (j := 5) rfl
        simp only [slV] at e0 e1
        obtain ⟨wy, HWY⟩ : ∃ wy, Hid (wy = wr.alloc (.cells #[.int .i64 wd, .slice a1 n1 c1, .slice a2 n2 c2, .int .i64 (T : Int), .slice a3 n3 c3, .slice a4 n4 c4, .slice va vn vc, .slice ca n3 cc, .slice none 0 0, .int .i64 0, .int .i64 0, .bool false] 109)) := ⟨_, rfl⟩
        have HQY : OB wa wy eb ⟨(va, vn, vc), (ca, n3, cc), rws⟩ q0 := by rw [HWY.out]; exact HQ.alloc _
        have SX : SB wa wy wr.heap.size ⟨wd, (a1, n1, c1), (a2, n2, c2), (T : Int), (a3, n3, c3), (a4, n4, c4), rows⟩ ⟨(va, vn, vc), (ca, n3, cc), rws⟩ (none, 0, 0) q0 (0, 0) := ⟨HQY.bel, HQ.bel.size, by rw [HWY.out]; exact Blk.new wr _ _, HQY.mem⟩
        have HRC := Lib.hid (HR.out wa wy wr.heap.size _ HNX.out.bel SX)
        have p6 := (HNX.out.below (show Below wa.heap.size wa wy from HQY.bel)).arg.cell (j := 5) rfl
        rw [HWY.out] at p6
        clear SX hqs hnx HQ HQY
        go_wp2_with fail
        rw [← HWY.out]
        refine HRC.out.mono ?_
        rintro e w2 ⟨rfl, ⟨oa, on, oc⟩, hr⟩
        have N1 := HNX.out.below (show Below wa.heap.size wa w2 from hr.bel)
        have hlt1 := HNX.out.lt
        have k8 := hr.box.cell (j := 8) rfl
        have k9 := hr.box.cell (j := 9) rfl
        have k10 := hr.box.cell (j := 10) rfl
        simp only [slV] at k8
        have q0 := N1.res.cell (j := 0) rfl
        have q1 := N1.res.cell (j := 1) rfl
        have q2 := N1.res.cell (j := 2) rfl
        have f0 := N1.res.frozen 0
        have f1 := N1.res.frozen 1
        have f2 := N1.res.frozen 2
        have N3 := (((N1.res.set (j := 0) (.slice oa on oc)).set (j := 1) (.int .i64 en)).set (j := 2) (.int .i64 co))
        have d0 := N3.cell (j := 0) rfl
        have d1 := N3.cell (j := 1) rfl
        have d2 := N3.cell (j := 2) rfl
        have HF := Lib.hid (below_set3 N1.bel (.slice oa on oc) (.int .i64 en) (.int .i64 co))
        have HO := Lib.hid ((((hr.mem.outs.set (j := 0) hlt1 (.slice oa on oc)).set (j := 1) hlt1 (.int .i64 en)).set (j := 2) hlt1 (.int .i64 co)).base HNX.out.bel.size)
        clear N1 N3 hr HRC e0 e1 p0 p1 p2 p3 p5 p6 g4 HWY
        go_wp2
        refine bodyPost_ret (v := .agg #[.slice oa on oc, .int .i64 en, .int .i64 co]) (by simp [results, Tryz.results113, go_sem, d0, d1, d2]) rfl ?_
        exact ⟨HF.out, (oa, on, oc), rfl, HO.out⟩
end Go.Proofs.YtmooecbdpfhnlaaGreat
/- The answers of InputAt, as a law asks for them. -/
namespace Go.Proofs.YtmooecbdpfhnlaaGreat
open Go.RowKit

end Go.Proofs.YtmooecbdpfhnlaaGreat
/- The number of an input leads back to it: plain mathematics. -/
namespace Go.Proofs.YtmooecbdpfhnlaaGreat
open Go.RowKit

theorem at_app {p : Prg} {N : Int} (h : atOk p N = true) : atL p N ++ atS p N = digs (maxesP p) N := by
  rw [atL, atS, if_pos h, if_pos h, List.take_append_drop]
theorem digs_le : ∀ {ms : List Int}, (∀ m ∈ ms, 0 ≤ m) → ∀ (n : Int) (i : Nat), i < ms.length → 0 ≤ (digs ms n).getD i 0 ∧ (digs ms n).getD i 0 ≤ ms.getD i 0
  | [], _, _, i, hi => absurd hi (by simp)
  | m :: ms, h, n, 0, _ => by
    have hm := h m (List.mem_cons_self)
    have h1 := Int.emod_nonneg n (show m + 1 ≠ 0 by omega)
    have h2 := Int.emod_lt_of_pos n (show 0 < m + 1 by omega)
    rw [digs, List.getD_cons_zero, List.getD_cons_zero]
    omega
  | m :: ms, h, n, i + 1, hi => by
    rw [digs, List.getD_cons_succ, List.getD_cons_succ]
    exact digs_le (fun x hx => h x (List.mem_cons_of_mem _ hx)) _ i (by simpa using hi)
/-- There is a start at each input. -/
theorem at_start {p : Prg} {N : Int} (h : atOk p N = true) : startB p (atL p N) (atS p N) = true := by
  have hz : codeB p = 0 := by simp [atOk] at h; exact h.1
  have hw := wide_of_max hz
  have hle := digs_le (fun m hm => (hw m hm).1) N
  have hlen : (maxesP p).length = p.lows.length + p.secrets.length := maxesP_len p
  have hdl := digs_len (maxesP p) N
  have e1 : (codeB p == 0) = true := by simpa using hz
  rw [startB, e1, Bool.true_and]
  have hL : atL p N = (digs (maxesP p) N).take p.lows.length := by rw [atL, if_pos h]
  have hS : atS p N = (digs (maxesP p) N).drop p.lows.length := by rw [atS, if_pos h]
  have l1 : (atL p N).length = p.lows.length := by rw [hL, List.length_take]; omega
  have l2 : (atS p N).length = p.secrets.length := by rw [hS, List.length_drop]; omega
  have a1 : areB p.lows (atL p N) = true := areB_all l1 (fun i hi => by
    have hi' : i < p.lows.length := by omega
    have := hle i (by omega)
    rw [maxesP, maxesL_getD (by rw [List.length_append]; omega), tmAt_app_left hi'] at this
    rw [hL]
    simpa [List.getD_eq_getElem?_getD, List.getElem?_take, hi', maxesP] using this)
  have a2 : areB p.secrets (atS p N) = true := areB_all l2 (fun i hi => by
    have hi' : i < p.secrets.length := by omega
    have := hle (p.lows.length + i) (by omega)
    rw [maxesP, maxesL_getD (by rw [List.length_append]; omega), tmAt_app_right] at this
    rw [hS]
    simpa [List.getD_eq_getElem?_getD, List.getElem?_drop, maxesP] using this)
  rw [a1, a2]; rfl
end Go.Proofs.YtmooecbdpfhnlaaGreat
/- Joined texts of this proof (SpecTable, ImplAdd), in build order. -/
/- The contract of the model's l8Table: all inputs and their outcomes, by number. -/
namespace Go.Proofs.YtmooecbdpfhnlaaGreat
open Go.RowKit

/-- The outcome of the input of a number. -/
noncomputable def ocAt (p : Prg) (i : Nat) : Oc := (outR p (atL p (i : Int)) (atS p (i : Int)), endR p (atL p (i : Int)) (atS p (i : Int)))
noncomputable def tabIn (p : Prg) (k : Nat) : List (List Int) := (List.range k).map (fun i : Nat => digs (maxesP p) (i : Int))
noncomputable def tabOut (p : Prg) (k : Nat) : List Oc := (List.range k).map (ocAt p)
theorem tabIn_succ (p : Prg) (k : Nat) : tabIn p (k + 1) = tabIn p k ++ [digs (maxesP p) (k : Int)] := by simp [tabIn, List.range_succ]
theorem tabOut_succ (p : Prg) (k : Nat) : tabOut p (k + 1) = tabOut p k ++ [ocAt p k] := by simp [tabOut, List.range_succ]
theorem tabIn_at {p : Prg} {k i : Nat} (h : i < k) : intsAt (tabIn p k) i = digs (maxesP p) (i : Int) := by simp [intsAt, tabIn, List.getD_eq_getElem?_getD, h]
theorem tabOut_at {p : Prg} {k i : Nat} (h : i < k) : oAt (tabOut p k) i = ocAt p i := by simp [oAt, tabOut, List.getD_eq_getElem?_getD, h]
section
variable {w w' : World} {B E : Nat} {a : Option Addr} {n c : Nat} {rs : List OcR} {os : List Oc} {row : Option Nat}
theorem OwnO.keep (h : OwnO w B E a n c rs os) (hg : w.grownBy w' row) (ho : ∀ g, (Value.slice a n c).ownBlock = some g → row ≠ some g) (hv : ∀ i g, i < n → (slV (rAt rs i).vals).ownBlock = some g → row ≠ some g) : OwnO w' B E a n c rs os := by
  refine ⟨h.1.kept hg ?_, h.2.1, h.2.2.1, fun i hi => ⟨(h.2.2.2 i hi).1, (h.2.2.2 i hi).2.1, (h.2.2.2 i hi).2.2.1, (h.2.2.2 i hi).2.2.2.1, (h.2.2.2 i hi).2.2.2.2.keep hg (hv i · hi)⟩⟩
  cases he : (Value.slice a n c).ownBlock with
  | none => exact .inl rfl
  | some g => exact .inr fun e => ho g he e.symm
/-- A row of another kind turns. -/
theorem OwnO.kinds {B' e size m : Nat} {v : Value} {xs : List Value} (h : OwnO w B E a n c rs os) (hr : w.ownsRow B' e size v m xs) (h1 : 43 ≠ e) (h2 : 2 ≠ e) (hg : w.grownBy w' v.ownBlock) : OwnO w' B E a n c rs os :=
  h.keep hg (fun _ e => own_kinds h.1 hr h1 e) (fun i _ hi e => own_kinds (h.2.2.2 i hi).2.2.2.2.1 hr h2 e)
theorem OwnIS.kinds {B' e size m : Nat} {v : Value} {xs : List Value} {rs : List Sl} {css : List (List Int)} (h : OwnIS w B a n c rs css) (hr : w.ownsRow B' e size v m xs) (h1 : 28 ≠ e) (h2 : 2 ≠ e) (hg : w.grownBy w' v.ownBlock) : OwnIS w' B a n c rs css :=
  h.keep hg (fun _ e => own_kinds h.1 hr h1 e) (fun i _ hi e => own_kinds (h.2.2.2 i hi).1 hr h2 e)
theorem OwnIS.base {B' : Nat} {rs : List Sl} {css : List (List Int)} (h : OwnIS w B a n c rs css) (hB : B' ≤ B) : OwnIS w B' a n c rs css := by
  refine ⟨⟨h.1.1, ?_⟩, h.2.1, h.2.2.1, fun i hi => (h.2.2.2 i hi).base hB⟩
  rcases h.1.2 with hn | ⟨g, cap, cur, e, hb, r⟩
  · exact .inl hn
  · exact .inr ⟨g, cap, cur, e, by omega, r⟩
theorem OwnIS.snoc {r : Sl} {zs : List Int} {a1 : Option Addr} {c1 : Nat} {rs : List Sl} {css : List (List Int)} (h : OwnIS w B a n c rs css) (hr : Own w B r.1 r.2.1 r.2.2 zs) (hn : n < 1048576) (h1 : w'.ownsRow B 28 1 (.slice a1 (n + 1) c1) (n + 1) ((rs ++ [r]).map slV)) (hg : w.grownBy w' (Value.slice a n c).ownBlock) : OwnIS w' B a1 (n + 1) c1 (rs ++ [r]) (css ++ [zs]) := by
  have hlr := h.len
  have hls := h.2.2.1
  refine ⟨h1, by omega, by simp [hls], fun i hi => ?_⟩
  rcases Nat.lt_or_ge i n with hlt | hge
  · rw [show slAt (rs ++ [r]) i = slAt rs i from getD_left _ _ _ _ (by omega), show intsAt (css ++ [zs]) i = intsAt css i from getD_left _ _ _ _ (by omega)]
    exact (h.2.2.2 i hlt).keep hg (fun g e => own_kinds (h.2.2.2 i hlt).1 h.1 (by decide) e)
  · obtain rfl : i = n := by omega
    rw [show slAt (rs ++ [r]) i = r from getD_last _ _ _ _ (by omega), show intsAt (css ++ [zs]) i = zs from getD_last _ _ _ _ (by omega)]
    exact hr.keep hg (fun g e => own_kinds hr.1 h.1 (by decide) e)
end
theorem ownIS_empty (w : World) (B : Nat) (hB : B ≤ w.heap.size) : OwnIS (w.alloc (.cells #[] 28)) B (some ⟨w.heap.size, 0, none⟩) 0 0 [] [] :=
  ⟨World.ownsRow_lit w #[] 0 hB (by unfold maxLen; omega) rfl, by omega, rfl, fun i hi => absurd hi (by omega)⟩
theorem OwnIS.alloc {w : World} {B : Nat} {a : Option Addr} {n c : Nat} {rs : List Sl} {css : List (List Int)} (h : OwnIS w B a n c rs css) (o : Obj) : OwnIS (w.alloc o) B a n c rs css := h.below ((Below.refl _ _).alloc (Nat.le_refl _) o)
/-- 'append(in, a)'. -/
theorem wpList_pushIS {ops : Array Oper} {rest : List Oper} {o : Oper} {ac : Act} {Q : Exit → Act → World → Prop} (w : World) (hgd : o.guard = none) (s x : Operand)
    (ho : o.op = .call { callee := .builtin .append, args := #[s, x], argTypes := #[88, 88] })
    (B : Nat) (a : Option Addr) (n c : Nat) (rs : List Sl) (css : List (List Int)) (hs : ac.eval s = .slice a n c) (hown : OwnIS w B a n c rs css)
    (g : Nat) (r : Sl) (zs : List Int) (hx : ac.eval x = .slice (some ⟨g, 0, none⟩) 1 1) (hc1 : w.cell? ⟨g, 0, none⟩ = some (slV r)) (hr : Own w B r.1 r.2.1 r.2.2 zs) (hn : n < 1048576) (hB : B ≤ w.heap.size)
    (h : ∀ a1 c1 w', OwnIS w' B a1 (n + 1) c1 (rs ++ [r]) (css ++ [zs]) → GrowsTo w (.slice a n c) w' (.slice a1 (n + 1) c1) → wpList Tryz.prog ops Q rest (ac.put o.dst (.slice a1 (n + 1) c1)) w') : wpList Tryz.prog ops Q (o :: rest) ac w := by
  refine wpList_pushG w hgd s x 88 28 (.slice none 0 0) 1 24 ho Tryz.underlying88 info_ints rfl (by omega) B a n c (rs.map slV) hs hown.1 ⟨g, 0, none⟩ 1 1 [slV r] hx rfl ?_ ?_ (by unfold maxLen; omega) (by omega) hB ?_
  · intro j u hj
    match j, hj with
    | 0, hj => simp at hj; subst hj; simpa [Addr.add] using hc1
  · intro u hu; simp at hu; subst hu; rfl
  · intro a1 c1 w' r1 r2
    exact h a1 c1 w' (hown.snoc hr hn (by rw [List.map_append]; exact r1) r2.1) r2
/-- What l8Table leaves: C inputs, C outcomes. -/
def Tabled (w : World) (p : Prg) (C : Nat) (e : Ending) (w' : World) : Prop :=
  Below w.heap.size w w' ∧ ∃ (ia oa : Option Addr) (ic oc : Nat) (irs : List Sl) (ors : List OcR), e = .returned (.tuple #[.slice ia C ic, .slice oa C oc]) ∧ OwnIS w' w.heap.size ia C ic irs (tabIn p C) ∧ OwnO w' w.heap.size w.heap.size oa C oc ors (tabOut p C)
theorem maxOk_of {p : Prg} (h : codeB p = 0) : MaxOk (maxesP p) := code_max h
def SmallR (r : Rz) : Prop := (0 ≤ r.1 ∧ r.1 ≤ 2) ∧ (0 ≤ r.2 ∧ r.2 ≤ 9)
theorem small_trap {S : Nat} {q : Sta} {ts : List Tm} (h : trS S q ts ≠ 0) : SmallR (2, trS S q ts) := by
  rcases trS_of h with e | e <;> rw [e] <;> exact ⟨⟨by decide, by decide⟩, ⟨by decide, by decide⟩⟩
theorem small_zero : SmallR (0, 0) := ⟨⟨by decide, by decide⟩, ⟨by decide, by decide⟩⟩
theorem Basic.small {p : Prg} {S : Nat} {s : Stm} {q q' : Sta} {r : Rz} (h : Basic S s q q' r) (hg : goodS p s) : SmallR r := by
  cases h with
  | setT _ h | putA _ h | putE _ _ h | outT _ h => exact small_trap h
  | putC => exact ⟨⟨by decide, by decide⟩, ⟨by decide, by decide⟩⟩
  | throw h =>
    have := goodS_num hg
    rw [h] at this
    simp [numOk] at this
    exact ⟨⟨(by omega : (0 : Int) ≤ 1), (by omega : (1 : Int) ≤ 2)⟩, this⟩
  | _ => exact small_zero
theorem Runs.small {p : Prg} {S : Nat} {ss : List Stm} {m : Mode} {i j s : Nat} {q q' : Sta} {r : Rz} (h : Runs S ss m i j s q q' r) (hg : ∀ i, i < ss.length → goodS p (stAt ss i)) : SmallR r := by
  induction h with
  | plain hi _ _ _ h => exact h.small (hg _ hi)
  | ifT _ _ _ _ h => exact small_trap h
  | nil | zero | if0 => exact small_zero
  | _ => assumption
theorem rz_small (p : Prg) (ls ss : List Int) : SmallR (endR p ls ss) := by
  unfold endR
  by_cases h : startB p ls ss = true
  · obtain ⟨s, _, hr⟩ := runX_spec h
    exact hr.small (code_good (startB_ok h)).1
  · rw [runX_no (by simpa using h)]; exact small_zero
theorem SmallR.in1 {r : Rz} (h : SmallR r) : In64 r.1 := ⟨by have := h.1; omega, by have := h.1; omega⟩
theorem SmallR.in2 {r : Rz} (h : SmallR r) : In64 r.2 := ⟨by have := h.2; omega, by have := h.2; omega⟩
set_option maxRecDepth 20000 in
set_option maxHeartbeats 3200000 in
theorem l8Table_any (r : PRow) (p : Prg) (C : Nat) (w : World) (h : ProgAt w r p) (hz : codeB p = 0) (hC : prodL (maxesP p) = (C : Int)) (hC2 : C ≤ 1024) :
    Calls Tryz.prog 73 #[progV r] w (Tabled w p C) := by
  have hM := Lib.hid (fun (w' : World) (hw : Below w.heap.size w w') => l7Maxes_any r p w' (h.below hw) (code_inputs hz).1 (code_inputs hz).2.1)
  have HMX := Lib.hid (wide_of_max hz)
  have HMO := Lib.hid (maxOk_of hz)
  have HCC : Hid (countTo (maxesP p) (maxesP p).length = (C : Int)) := Lib.hid (by rw [countTo_prod, hC])
  have HL6 : Hid ((maxesP p).length ≤ 6) := Lib.hid (code_max hz).1
  have HAT : Hid (∀ k : Nat, k < C → atOk p (k : Int) = true) := Lib.hid (fun k hk => by simp only [atOk, hz, hC, decide_true, Bool.true_and, Bool.and_eq_true, decide_eq_true_eq]; omega)
  have HP := Lib.hid h
  clear h hz hC
  obtain ⟨wd, ⟨a1, n1, c1⟩, ⟨a2, n2, c2⟩, tp, ⟨a3, n3, c3⟩, ⟨a4, n4, c4⟩, rows⟩ := r
  have HM : Hid (∀ w', Below w.heap.size w w' → Calls Tryz.prog 55 #[.agg #[.int .i64 wd, .slice a1 n1 c1, .slice a2 n2 c2, .int .i64 tp, .slice a3 n3 c3, .slice a4 n4 c4]] w' (MadeInts w' (maxesP p))) := Lib.hid (fun w' hw => hM.out w' hw)
  clear hM
  show Calls Tryz.prog 73 #[.agg #[.int .i64 wd, .slice a1 n1 c1, .slice a2 n2 c2, .int .i64 tp, .slice a3 n3 c3, .slice a4 n4 c4]] w _
  obtain ⟨wa, HW⟩ : ∃ wa, Hid (wa = w.alloc (.cells #[.int .i64 wd, .slice a1 n1 c1, .slice a2 n2 c2, .int .i64 tp, .slice a3 n3 c3, .slice a4 n4 c4] 31)) := ⟨_, rfl⟩
  have BX : Blk wa w.heap.size 31 [.int .i64 wd, .slice a1 n1 c1, .slice a2 n2 c2, .int .i64 tp, .slice a3 n3 c3, .slice a4 n4 c4] := by rw [HW.out]; exact Blk.new w _ _
  have HB : Below w.heap.size w wa := by rw [HW.out]; exact belA (Below.refl _ _)
  go_enter Tryz.func73, Tryz.ntmps73
  go_wp2_with fail
  rw [← HW.out]
  refine (HM.out _ HB).mono ?_
  rintro e w1 ⟨ma, mn, mc, rfl, hom, hb1⟩
  have HMN : Hid (mn = (maxesP p).length) := Lib.hid hom.len.symm
  have hmn : mn ≤ 6 := by rw [HMN.out]; exact HL6.out
  have hbw := HB.trans (hb1.mono HB.size)
  have HBX := Lib.hid (BX.below hb1 BX.lt)
  have HI := Lib.hid hom.ints
  have HBW := Lib.hid hbw
  obtain ⟨k0, HK0⟩ : ∃ k, Hid (w.heap.size = k) := ⟨_, rfl⟩
  have HBX : Hid (Blk w1 k0 31 [.int .i64 wd, .slice a1 n1 c1, .slice a2 n2 c2, .int .i64 tp, .slice a3 n3 c3, .slice a4 n4 c4]) := Lib.hid (by rw [← HK0.out]; exact HBX.out)
  clear HM HW hb1 BX HB hom hbw
  go_wp2_with fail
  rw [HK0.out]
  go_loopw [5, 6, 7] (fun iv ov nv wr => ∃ (k : Nat) (ia oa : Option Addr) (ic oc : Nat) (irs : List Sl) (ors : List OcR), k ≤ C ∧ nv = .int .i64 (k : Int) ∧ iv = .slice ia k ic ∧ ov = .slice oa k oc ∧ OwnIS wr w1.heap.size ia k ic irs (tabIn p k) ∧ OwnO wr w1.heap.size w1.heap.size oa k oc ors (tabOut p k) ∧ Below w1.heap.size w1 wr) (fun _ _ nv _ => C - (intOf nv).toNat)
  case atStart => exact ⟨0, _, _, 0, 0, [], [], Nat.zero_le _, rfl, rfl, rfl, (ownIS_empty w1 _ (Nat.le_refl _)).alloc _, by have := ownO_empty (w1.alloc (.cells #[] 28)) w1.heap.size w1.heap.size (by simp); simpa [tabOut] using this, belA (belA (Below.refl _ _))⟩
  case round =>
    obtain ⟨k, ia, oa, ic, oc, irs, ors, hk, rfl, rfl, rfl, hin, hout, hbel⟩ := hrel
    go_wp2_with fail
    refine (l7Count_any _ _ _ _ _ (HI.out.below hbel) HMO.out).mono ?_
    rintro e w2 ⟨rfl, rfl⟩
    rw [HCC.out]
    by_cases hlt : k < C
    · go_wp2_with fail
      refine (l7At_any _ _ _ _ (k : Int) _ (HI.out.below hbel) HMX.out (by omega) (by omega) hmn).mono ?_
      rintro e w3 ⟨g, zc, rfl, hoz, hb⟩
      have hin := hin.below hb
      have hout := hout.below hb
      have hsz := hbel.size
      have hbel := hbel.trans (hb.mono hbel.size)
      have hsz3 := hbel.size
      have hozb := hoz.base hsz
      have HTI := Lib.hid (tabIn_succ p k)
      have HTO := Lib.hid (tabOut_succ p k)
      clear hoz hb
      go_wp2_with (at_builtin; refine wpList_pushIS _ rfl _ _ rfl w1.heap.size _ _ _ irs (tabIn p k) rfl (hin.alloc _) w3.heap.size (some ⟨g, 0, none⟩, mn, zc) (digs (maxesP p) (k : Int)) rfl (by simp [slV]) (hozb.alloc _) (by omega) (by simp; omega) ?_)
      intro a8 c8 w8 hin8 hg8
      rw [← HTI.out] at hin8
      have hout8 := (hout.alloc (.cells #[slV (some ⟨g, 0, none⟩, mn, zc)] 28)).kinds (hin.alloc _).1 (by decide) (by decide) hg8.1
      have hoz8 : Own w8 w1.heap.size (some ⟨g, 0, none⟩) mn zc (digs (maxesP p) (k : Int)) := (hozb.alloc (.cells #[slV (some ⟨g, 0, none⟩, mn, zc)] 28)).keep hg8.1 (fun g' e => own_kinds hozb.1 hin.1 (by decide) e)
      have hbel8 : Below w1.heap.size w1 w8 := (hbel.alloc hsz3 _).grown hg8.1 (by simp; omega) (fun g e => (hin.1.lt g e).1)
      have hs8 := hbel8.size
      have hX := HBX.out.below hbel8 HBX.out.lt
      have t0 := hX.cell (j := 0) rfl
      have t1 := hX.cell (j := 1) rfl
      have t2 := hX.cell (j := 2) rfl
      have t3 := hX.cell (j := 3) rfl
      have t4 := hX.cell (j := 4) rfl
      have t5 := hX.cell (j := 5) rfl
      clear hX hin hout hozb hbel hg8
      go_wp2_with fail
      refine (l6Of_any ⟨wd, (a1, n1, c1), (a2, n2, c2), tp, (a3, n3, c3), (a4, n4, c4), rows⟩ p _ _ _ (atL p (k : Int)) (atS p (k : Int)) _ (HP.out.below (HBW.out.trans (hbel8.mono HBW.out.size))) (by rw [at_app (HAT.out k hlt)]; exact hoz8.ints) (at_start (HAT.out k hlt))).mono ?_
      rintro e w9 ⟨hb, ⟨va, vn, vc⟩, rfl, hov⟩
      simp only [slV]
      have hin9 := hin8.below hb
      have hout9 := hout8.below hb
      have hbel9 := hbel8.trans (hb.mono hbel8.size)
      have hs9 := hbel9.size
      have hov9 := hov.base hs8
      have hsm := rz_small p (atL p (k : Int)) (atS p (k : Int))
      have HOC : Hid (OcOf w9 w1.heap.size ⟨(va, vn, vc), (endR p (atL p (k : Int)) (atS p (k : Int))).1, (endR p (atL p (k : Int)) (atS p (k : Int))).2⟩ (ocAt p k)) := Lib.hid ⟨rfl, rfl, hsm.in1, hsm.in2, hov9⟩
      obtain ⟨en, HEN⟩ : ∃ en, Hid ((endR p (atL p (k : Int)) (atS p (k : Int))).1 = en) := ⟨_, rfl⟩
      obtain ⟨co, HCO⟩ : ∃ co, Hid ((endR p (atL p (k : Int)) (atS p (k : Int))).2 = co) := ⟨_, rfl⟩
      rw [HEN.out, HCO.out] at HOC ⊢
      clear t0 t1 t2 t3 t4 t5 hin8 hout8 hoz8 hbel8 hb hov hov9 hsm
      go_wp2_with (at_builtin; refine wpList_pushO _ rfl _ _ rfl w1.heap.size w1.heap.size _ _ _ ors (tabOut p k) rfl (hout9.alloc _) w9.heap.size va vn vc en co (ocAt p k) rfl (by simp) (by simp) (by simp) (HOC.out.below (belA (Below.refl _ _))) (by omega) (by simp; omega) ?_)
      intro aa cc wz hoz9 hgz
      rw [← HTO.out] at hoz9
      have hinz := (hin9.alloc (.cells #[.slice va vn vc, .int .i64 en, .int .i64 co] 43)).kinds (hout9.alloc _).1 (by decide) (by decide) hgz.1
      have hbelz : Below w1.heap.size w1 wz := (hbel9.alloc hs9 _).grown hgz.1 (by simp; omega) (fun g e => (hout9.1.lt g e).1)
      clear hin9 hout9 hbel9 hgz HOC
      go_wp2
      go_roundw
      case rel => exact ⟨k + 1, a8, aa, c8, cc, _, _, by omega, by go_num, rfl, rfl, hinz, hoz9, hbelz⟩
      case measure => simp [intOf]; omega
    · obtain rfl : k = C := by omega
      have HF := Lib.hid (HBW.out.trans (hbel.mono HBW.out.size))
      have H1 := Lib.hid (hin.base HBW.out.size)
      have H2 := Lib.hid ((hout.base HBW.out.size).ebase HBW.out.size)
      clear hin hout hbel
      go_wp2
      go_ret2
      exact ⟨HF.out, ia, oa, ic, oc, irs, ors, rfl, H1.out, H2.out⟩
end Go.Proofs.YtmooecbdpfhnlaaGreat
/- The program's sets of outcomes: a map and a list behind a pointer; newOutcomeSet, add. -/
namespace Go.Proofs.YtmooecbdpfhnlaaGreat
open Go.RowKit

/-- What lies outside of D is as it was. -/
structure Turn (D : Nat → Prop) (w w' : World) : Prop where
  os : w'.os = w.os
  tape : w'.tape = w.tape
  output : w'.output = w.output
  size : w.heap.size ≤ w'.heap.size
  block : ∀ i, i < w.heap.size → ¬ D i → w'.heap[i]? = w.heap[i]?
theorem Turn.refl (D : Nat → Prop) (w : World) : Turn D w w := ⟨rfl, rfl, rfl, Nat.le_refl _, fun _ _ _ => rfl⟩
theorem Turn.trans {D : Nat → Prop} {a b c : World} (h : Turn D a b) (k : Turn D b c) : Turn D a c :=
  ⟨k.os.trans h.os, k.tape.trans h.tape, k.output.trans h.output, Nat.le_trans h.size k.size, fun i hi hd => (k.block i (Nat.lt_of_lt_of_le hi h.size) hd).trans (h.block i hi hd)⟩
theorem Turn.of_below {D : Nat → Prop} {a b : World} (h : Below a.heap.size a b) : Turn D a b := ⟨h.os, h.tape, h.output, h.size, fun i hi _ => h.block i hi⟩
theorem Turn.of_grown {D : Nat → Prop} {a b : World} {row : Option Nat} (h : a.grownBy b row) (hr : ∀ g, row = some g → D g) : Turn D a b :=
  ⟨h.os, h.tape, h.output, h.size, fun i hi hd => h.block i hi (fun e => hd (hr i e.symm))⟩
theorem Turn.below {D : Nat → Prop} {B : Nat} {a b : World} (h : Turn D a b) (hD : ∀ i, D i → B ≤ i) (hB : B ≤ a.heap.size) : Below B a b :=
  ⟨h.os, h.tape, h.output, h.size, fun i hi => h.block i (by omega) (fun hd => by have := hD i hd; omega)⟩
/-- A set of outcomes: its box k, its map, its list, which lie in D; the rows of numbers lie from B on and below N. -/
def SetW (w : World) (D : Nat → Prop) (B N k : Nat) (os : List Oc) : Prop := ∃ m a n c rs,
  Blk w k 104 [.map (some m), .slice a n c] ∧ D k ∧ MapW w m ((os.map keyO).map okV) (os.map fun _ => .bool true) ∧ D m ∧
  OwnO w B B a n c rs os ∧ (∀ g, (Value.slice a n c).ownBlock = some g → D g) ∧ ApartO rs ∧ (∀ i g, i < n → (slV (rAt rs i).vals).ownBlock = some g → g < N) ∧ ∀ o ∈ os, ByteO o
section
variable {w w' : World} {D : Nat → Prop} {B N k : Nat} {os : List Oc}
theorem SetW.below (h : SetW w D B N k os) (hb : Below w.heap.size w w') : SetW w' D B N k os := by
  obtain ⟨m, a, n, c, rs, h1, h2, h3, h4, h5, h6, h7, h8, h9⟩ := h
  exact ⟨m, a, n, c, rs, h1.below hb h1.lt, h2, h3.below hb h3.lt, h4, h5.below hb, h6, h7, h8, h9⟩
theorem SetW.up {N' : Nat} (h : SetW w D B N k os) (hN : N ≤ N') : SetW w D B N' k os := by
  obtain ⟨m, a, n, c, rs, h1, h2, h3, h4, h5, h6, h7, h8, h9⟩ := h
  exact ⟨m, a, n, c, rs, h1, h2, h3, h4, h5, h6, h7, fun i g hi e => Nat.lt_of_lt_of_le (h8 i g hi e) hN, h9⟩
/-- Its numbers lie below the heap's end. -/
theorem SetW.top (h : SetW w D B N k os) : SetW w D B w.heap.size k os := by
  obtain ⟨m, a, n, c, rs, h1, h2, h3, h4, h5, h6, h7, h8, h9⟩ := h
  exact ⟨m, a, n, c, rs, h1, h2, h3, h4, h5, h6, h7, fun i g hi e => ((h5.2.2.2 i hi).2.2.2.2.block g e).2, h9⟩
/-- What turns elsewhere leaves it as it was. -/
theorem SetW.turn {D' : Nat → Prop} (h : SetW w D B N k os) (ht : Turn D' w w') (hD : ∀ i, D i → ¬ D' i) (hB : ∀ i, B ≤ i → i < N → ¬ D' i) : SetW w' D B N k os := by
  obtain ⟨m, a, n, c, rs, h1, h2, h3, h4, h5, h6, h7, h8, h9⟩ := h
  have hm := h3.lt
  obtain ⟨es, cl, e1, e2, e3⟩ := h3
  refine ⟨m, a, n, c, rs, (ht.block k h1.lt (hD k h2)).trans h1, h2, ⟨es, cl, (ht.block m hm (hD m h4)).trans e1, e2, e3⟩, h4, ?_, h6, h7, h8, h9⟩
  refine ⟨⟨h5.1.1, ?_⟩, h5.2.1, h5.2.2.1, fun i hi => ?_⟩
  · rcases h5.1.2 with hn | ⟨g, cap, cur, e, hb, hg, r⟩
    · exact .inl hn
    · exact .inr ⟨g, cap, cur, e, hb, (ht.block g (h5.block g (by rw [e]; rfl)).2 (hD g (h6 g (by rw [e]; rfl)))).trans hg, r⟩
  · obtain ⟨q1, q2, q3, q4, q5⟩ := h5.2.2.2 i hi
    refine ⟨q1, q2, q3, q4, ⟨⟨q5.1.1, ?_⟩, q5.2⟩⟩
    rcases q5.1.2 with hn | ⟨g, cap, cur, e, hb, hg, r⟩
    · exact .inl hn
    · have ho : (slV (rAt rs i).vals).ownBlock = some g := by rw [slV, e]; rfl
      exact .inr ⟨g, cap, cur, e, hb, (ht.block g (q5.block g ho).2 (hB g hb (h8 i g hi ho))).trans hg, r⟩
end
theorem own_not_map {w : World} {B e size n m : Nat} {v : Value} {xs ks vs : List Value} (h : w.ownsRow B e size v n xs) (hm : MapW w m ks vs) : ∀ g, v.ownBlock = some g → (some m : Option Nat) ≠ some g := by
  intro g hg e'
  injection e' with e'
  subst e'
  obtain ⟨c1, f1, h1⟩ := Go.Lib.ownsRow_kind h m hg
  obtain ⟨es, cl, h2, _⟩ := hm
  rw [h1] at h2
  cases h2
theorem blk_not_map {w : World} {b t m : Nat} {xs ks vs : List Value} (h : Blk w b t xs) (hm : MapW w m ks vs) : (some m : Option Nat) ≠ some b := by
  intro e'
  injection e' with e'
  subst e'
  obtain ⟨es, cl, h2, _⟩ := hm
  rw [show w.heap[m]? = _ from h] at h2
  cases h2
theorem map_not_own {w : World} {B e size n m : Nat} {v : Value} {xs ks vs : List Value} (h : w.ownsRow B e size v n xs) (hm : MapW w m ks vs) : v.ownBlock ≠ some m := fun e' => own_not_map h hm m e' rfl
set_option maxHeartbeats 800000 in
theorem newSet_any (w : World) : Calls Tryz.prog 60 #[] w fun e w' => e = .returned (.pointer (some ⟨w.heap.size + 1, 0, none⟩)) ∧ w' = (w.alloc (.map #[] 0)).alloc (.cells #[.map (some w.heap.size), .slice none 0 0] 104) := by
  have hmm := @run_makeMap Tryz.prog
  go_enter Tryz.func60, Tryz.ntmps60
  go_wp2
  go_ret
  exact ⟨rfl, rfl⟩
theorem setW_new (w : World) (D : Nat → Prop) (B N : Nat) (h0 : D w.heap.size) (h1 : D (w.heap.size + 1)) :
    SetW ((w.alloc (.map #[] 0)).alloc (.cells #[.map (some w.heap.size), .slice none 0 0] 104)) D B N (w.heap.size + 1) [] := by
  refine ⟨w.heap.size, none, 0, 0, [], ?_, h1, ?_, h0, ownO_nil _ _ _, fun g e => by simp [Value.ownBlock] at e, apartO_nil, fun i g hi => absurd hi (by omega), fun o ho => by simp at ho⟩
  · simpa using Blk.new (w.alloc (.map #[] 0)) 104 [.map (some w.heap.size), .slice none 0 0]
  · exact (mapW_made w).below (belA (Below.refl _ _)) (by simp)
theorem zero_bool (w : World) : (zeroValue 4).run Tryz.prog w = .ok (.bool false) w := by kernel_rfl
/-- Whether it is there. -/
theorem seen_any {w : World} {m : Nat} {os : List Oc} (h : MapW w m ((os.map keyO).map okV) (os.map fun _ => .bool true)) (hb : ∀ o ∈ os, ByteO o) (o : Oc) (ho : ByteO o) :
    (Instr.lookup 102 (.map (some m)) (okV (keyO o)) false).run Tryz.prog w = .ok (.bool (decide (o ∈ os))) w := by
  obtain ⟨v, hr, hv⟩ := h.lookup keyLaw_oc (t := 102) Tryz.underlying102 (.bool false) (zero_bool w) (keyO o)
  rw [hr]
  rcases hv with ⟨hn, rfl⟩ | ⟨j, h1, h2⟩
  · rw [decide_eq_false (fun hm => hn (List.mem_map.2 ⟨o, hm, rfl⟩))]
  · rw [List.getElem?_map] at h1 h2
    cases he : os[j]? with
    | none => rw [he] at h1; cases h1
    | some o' =>
      rw [he] at h1 h2
      simp only [Option.map_some, Option.some.injEq] at h1 h2
      have hm := List.mem_of_getElem? he
      have := key_inj (hb o' hm) ho h1
      subst this
      rw [← h2, decide_eq_true hm]
theorem cell_afterX {w8 : World} {k j : Nat} {v : Value} (h : w8.cell? ⟨k, j, none⟩ = some v) (o : Obj) : (w8.alloc o).cell? ⟨k, j, none⟩ = some v := by
  have hk : k < w8.heap.size := by
    rcases Nat.lt_or_ge k w8.heap.size with h' | h'
    · exact h'
    · simp [World.cell?, Array.getElem?_eq_none h'] at h
  exact ((belA (Below.refl _ w8)).cell hk).trans h
/-- One outcome more: the map knows it, the list has it. -/
theorem setW_add {w w3 w8 : World} {D : Nat → Prop} {B N k mp ln lc m d c8 : Nat} {la v a8 : Option Addr} {rs : List OcR} {os : List Oc} {oc : Oc} {en co : Int} (T : Turn D w w3) (hd3 : Below w3.heap.size w3 w3.drew)
    (_K3 : Blk w3 k 104 [.map (some mp), .slice la ln lc]) (M3 : MapW w3 mp ((os.map keyO ++ [keyO oc]).map okV) ((os.map fun _ => .bool true) ++ [.bool true])) (L3 : OwnO w3 B B la ln lc rs os) (C3 : OcOf w3 B ⟨(v, m, d), en, co⟩ oc)
    (hown8 : OwnO w8 B B a8 (ln + 1) c8 (rs ++ [⟨(v, m, d), en, co⟩]) (os ++ [oc])) (hg8 : GrowsTo (w3.drew.alloc (.cells #[.slice v m d, .int .i64 en, .int .i64 co] 43)) (.slice la ln lc) w8 (.slice a8 (ln + 1) c8))
    (h2 : D k) (h4 : D mp) (h6 : ∀ g, (Value.slice la ln lc).ownBlock = some g → D g) (hD : ∀ i, w3.heap.size ≤ i → D i) (_hB : B ≤ w.heap.size) (h7 : ApartO rs) (h8 : ∀ i g, i < ln → (slV (rAt rs i).vals).ownBlock = some g → g < N)
    (hv : ∀ g, (Value.slice v m d).ownBlock = some g → N ≤ g) (h9 : ∀ o ∈ os, ByteO o) (hby : ByteO oc) (_hs3 : w.heap.size ≤ w3.heap.size) (X8 : Blk w8 k 104 [.map (some mp), .slice la ln lc]) :
    SetW (w8.setCell ⟨k, 1, none⟩ (.slice a8 (ln + 1) c8)) D B (w8.setCell ⟨k, 1, none⟩ (.slice a8 (ln + 1) c8)).heap.size k (os ++ [oc]) ∧ Turn D w (w8.setCell ⟨k, 1, none⟩ (.slice a8 (ln + 1) c8)) := by
  have hba : Below w3.heap.size w3 (w3.drew.alloc (.cells #[.slice v m d, .int .i64 en, .int .i64 co] 43)) := belA hd3
  have M4 := M3.below hba M3.lt
  have L4 := L3.below hba
  have M8 := M4.kept hg8.1 (map_not_own L4.1 M4)
  have g9 := grown_set w8 k 1 (.slice a8 (ln + 1) c8)
  have M9 := M8.kept g9 (fun e => blk_not_map X8 M8 e.symm)
  have O9 : OwnO (w8.setCell ⟨k, 1, none⟩ (.slice a8 (ln + 1) c8)) B B a8 (ln + 1) c8 (rs ++ [⟨(v, m, d), en, co⟩]) (os ++ [oc]) := hown8.keep g9 (blk_apart X8 hown8.1 (by decide)) (fun i g hi e => blk_apart X8 (hown8.2.2.2 i hi).2.2.2.2.1 (by decide) g e)
  have hl := L3.len
  refine ⟨⟨mp, a8, ln + 1, c8, _, X8.set (j := 1) _, h2, ?_, h4, O9, fun g e => ?_, h7.snoc (fun i g hi e e' => ?_), fun i g hi e => ((O9.2.2.2 i hi).2.2.2.2.block g e).2, fun o ho => ?_⟩, ?_⟩
  · simpa using M9
  · rcases hg8.2 g e with e' | e'
    · exact h6 g e'
    · exact hD g (by have := hba.size; omega)
  · have := h8 i g (by omega) e
    have := hv g e'
    omega
  · rcases List.mem_append.1 ho with ho | ho
    · exact h9 o ho
    · rw [List.mem_singleton] at ho; subst ho; exact hby
  · exact ((T.trans (Turn.of_below hba)).trans (Turn.of_grown hg8.1 h6)).trans (Turn.of_grown g9 (fun g e => by injection e with e; rw [← e]; exact h2))
set_option maxRecDepth 20000 in
set_option maxHeartbeats 3200000 in
theorem add_any (w : World) (D : Nat → Prop) (B N k : Nat) (os : List Oc) (v : Option Addr) (m d : Nat) (en co : Int) (oc : Oc) (h : SetW w D B N k os) (hD : ∀ i, w.heap.size ≤ i → D i) (hB : B ≤ w.heap.size)
    (hoc : OcOf w B ⟨(v, m, d), en, co⟩ oc) (hby : ByteO oc) (hm : m ≤ 1000) (hv : ∀ g, (Value.slice v m d).ownBlock = some g → N ≤ g) (hlen : os.length ≤ 100000) :
    Calls Tryz.prog 104 #[.pointer (some ⟨k, 0, none⟩), .agg #[.slice v m d, .int .i64 en, .int .i64 co]] w fun e w' => e = .returned (.tuple #[]) ∧ SetW w' D B w'.heap.size k (addNew os oc) ∧ Turn D w w' := by
  obtain ⟨wa, HW⟩ : ∃ wa, Hid (wa = w.alloc (.cells #[.slice v m d, .int .i64 en, .int .i64 co] 43)) := ⟨_, rfl⟩
  have B0 : Blk wa w.heap.size 43 [.slice v m d, .int .i64 en, .int .i64 co] := by rw [HW.out]; exact Blk.new w _ _
  have hba : Below w.heap.size w wa := by rw [HW.out]; exact belA (Below.refl _ _)
  have hk1 := keyOf_any B v m d en co oc wa (hoc.below hba) hby hm
  have HK1 := Lib.hid hk1
  obtain ⟨KY, HKY⟩ : ∃ KY, Hid (okV (keyO oc) = KY) := ⟨_, rfl⟩
  rw [HKY.out] at HK1
  have HKA : Hid (KY = .agg #[.string (strOfNums oc.1), .int .i64 oc.2.1, .int .i64 oc.2.2]) := Lib.hid HKY.out.symm
  obtain ⟨S, HS⟩ : ∃ S, Hid (strOfNums oc.1 = S) := ⟨_, rfl⟩
  obtain ⟨o1, HO1⟩ : ∃ z, Hid (oc.2.1 = z) := ⟨_, rfl⟩
  obtain ⟨o2, HO2⟩ : ∃ z, Hid (oc.2.2 = z) := ⟨_, rfl⟩
  rw [HS.out, HO1.out, HO2.out] at HKA
  rw [HKA.out] at HK1
  have t0 := B0.cell (j := 0) rfl
  have t1 := B0.cell (j := 1) rfl
  have t2 := B0.cell (j := 2) rfl
  have HSW := Lib.hid h
  have HOC := Lib.hid hoc
  have HBY := Lib.hid hby
  have HDD := Lib.hid hD
  have HV := Lib.hid hv
  clear hk1 h hoc hby hD hv
  go_enter Tryz.func104, Tryz.ntmps104
  go_wp2_with fail
  rw [← HW.out]
  refine HK1.out.mono ?_
  rintro e w1 ⟨rfl, hb1⟩
  obtain ⟨wb, HWB⟩ : ∃ wb, Hid (wb = w1.alloc (.cells #[.string S, .int .i64 o1, .int .i64 o2] 187)) := ⟨_, rfl⟩
  have hbb : Below w1.heap.size w1 wb := by rw [HWB.out]; exact belA (Below.refl _ _)
  have hbw : Below w.heap.size w wb := hba.trans ((hb1.trans (hbb.mono hb1.size)).mono hba.size)
  have BO : Blk wb w.heap.size 43 [.slice v m d, .int .i64 en, .int .i64 co] := (B0.below hb1 B0.lt).below hbb (B0.below hb1 B0.lt).lt
  have BK : Blk wb w1.heap.size 187 [.string S, .int .i64 o1, .int .i64 o2] := by rw [HWB.out]; exact Blk.new w1 _ _
  have hkw : w.heap.size < w1.heap.size := Nat.lt_of_lt_of_le B0.lt hb1.size
  obtain ⟨mp, la, ln, lc, rs, h1, h2, h3, h4, h5, h6, h7, h8, h9⟩ := HSW.out.below hbw
  have hkk : k < w.heap.size := by obtain ⟨_, _, _, _, _, z, _⟩ := HSW.out; exact z.lt
  have hmk : mp < wb.heap.size := h3.lt
  have HH3 := Lib.hid h3
  have HH9 := Lib.hid h9
  have hseen : ∀ j, (Instr.lookup 102 (.map (some mp)) (.agg #[.string S, .int .i64 o1, .int .i64 o2]) false).run Tryz.prog (wb.drewN j) = .ok (.bool (decide (oc ∈ os))) (wb.drewN j) := fun j => by
    have := seen_any (w := wb.drewN j) HH3.out HH9.out oc HBY.out
    rw [HKY.out, HKA.out] at this
    exact this
  obtain ⟨q, HQ⟩ : ∃ q, Hid (decide (oc ∈ os) = q) := ⟨_, rfl⟩
  rw [HQ.out] at hseen
  have HB1 := Lib.hid h1
  have HB2 := Lib.hid BO
  have HB3 := Lib.hid BK
  have HBW := Lib.hid hbw
  have x0 := h1.cell (j := 0) rfl
  have y0 := BK.cell (j := 0) rfl
  have y1 := BK.cell (j := 1) rfl
  have y2 := BK.cell (j := 2) rfl
  clear t0 t1 t2 HK1 hb1 hbb hbw B0 hba HW
  cases q with
  | true =>
    have hin : oc ∈ os := by have := HQ.out; simpa using this
    have HF : Hid (∀ j, SetW (wb.drewN j) D B (wb.drewN j).heap.size k (addNew os oc) ∧ Turn D w (wb.drewN j)) := Lib.hid (fun j => by
      have hbj : Below w.heap.size w (wb.drewN j) := HBW.out.trans ((below_drewN wb j).mono HBW.out.size)
      rw [addNew, if_pos hin]
      exact ⟨(HSW.out.below hbj).top, Turn.of_below hbj⟩)
    clear h1 h2 h3 h4 h5 h6 h7 h8 h9 BO BK HB1 HB2 HB3 HH3 HH9 HSW hin
    go_wp2
    rw [← HWB.out]
    go_quiet (fail)
    rename_i nq
    have hff := HF.out nq
    go_wp2
    go_end0
    exact ⟨rfl, hff⟩
  | false =>
    have hnin : ¬ oc ∈ os := by have := HQ.out; simpa using this
    have hnk : keyO oc ∉ os.map keyO := fun hmem => by
      obtain ⟨o', ho', he⟩ := List.mem_map.1 hmem
      have := key_inj (HH9.out o' ho') HBY.out he
      subst this
      exact hnin ho'
    have HADD : Hid (addNew os oc = os ++ [oc]) := Lib.hid (by rw [addNew, if_neg hnin])
    have HNK := Lib.hid hnk
    have H2 := Lib.hid h2
    have H4 := Lib.hid h4
    have H5 := Lib.hid h5
    have H6 := Lib.hid h6
    have H7 := Lib.hid h7
    have H8 := Lib.hid h8
    clear h1 h2 h3 h4 h5 h6 h7 h8 h9 BO BK hnin hnk
    go_wp2
    rw [← HWB.out]
    go_quiet (fail)
    rename_i nq
    have hbx := below_drewN wb nq
    obtain ⟨wx, HWX⟩ : ∃ wx, Hid (wb.drewN nq = wx) := ⟨_, rfl⟩
    rw [HWX.out] at hbx ⊢
    have hsz := hbx.size
    have hd : Below wx.heap.size wx wx.drew := ⟨rfl, rfl, rfl, Nat.le_refl _, fun _ _ => rfl⟩
    have M1 := HH3.out.below hbx HH3.out.lt
    have M2 := M1.below hd M1.lt
    have K1 := HB1.out.below hbx HB1.out.lt
    have O1 := HB2.out.below hbx HB2.out.lt
    have Y1 := HB3.out.below hbx HB3.out.lt
    have L1 := H5.out.below hbx
    obtain ⟨w3, hmu, hM3, hg3⟩ := M2.insert keyLaw_oc (t := 102) Tryz.underlying102 (keyO oc) HNK.out (.bool true)
    rw [HKY.out, HKA.out] at hmu
    have K2 := K1.below hd K1.lt
    have O2 := O1.below hd O1.lt
    have K3 : Blk w3 k 104 [.map (some mp), .slice la ln lc] := blk_keep K2 hg3 (fun e => blk_not_map K2 M2 e)
    have O3 : Blk w3 w.heap.size 43 [.slice v m d, .int .i64 en, .int .i64 co] := blk_keep O2 hg3 (fun e => blk_not_map O2 M2 e)
    have L2 := L1.below hd
    have L3 : OwnO w3 B B la ln lc rs os := L2.keep hg3 (own_not_map L2.1 M2) (fun i g hi e => own_not_map (L2.2.2.2 i hi).2.2.2.2.1 M2 g e)
    have C1 := HOC.out.below (HBW.out.trans ((hbx.trans (hd.mono hbx.size)).mono HBW.out.size))
    have C3 : OcOf w3 B ⟨(v, m, d), en, co⟩ oc := ⟨C1.1, C1.2.1, C1.2.2.1, C1.2.2.2.1, C1.2.2.2.2.keep hg3 (own_not_map C1.2.2.2.2.1 M2)⟩
    have T3 : Turn D w w3 := (Turn.of_below (HBW.out.trans ((hbx.trans (hd.mono hbx.size)).mono HBW.out.size))).trans (Turn.of_grown hg3 (fun g e => by injection e with e; rw [← e]; exact H4.out))
    have HT3 := Lib.hid T3
    have HK3 := Lib.hid K3
    have HO3 := Lib.hid O3
    have HL3 := Lib.hid L3
    have HC3 := Lib.hid C3
    have HM3 := Lib.hid hM3
    have hs3 := T3.size
    have k0 := K1.cell (j := 0) rfl
    have y0 := Y1.cell (j := 0) rfl
    have y1 := Y1.cell (j := 1) rfl
    have y2 := Y1.cell (j := 2) rfl
    have l1 := K3.cell (j := 1) rfl
    have lf := K3.frozen 1
    have o0 := O3.cell (j := 0) rfl
    have o1 := O3.cell (j := 1) rfl
    have o2 := O3.cell (j := 2) rfl
    have hln : ln ≤ 100000 := by have := L3.2.2.1; omega
    clear x0 hseen hbx hd M1 M2 K1 O1 Y1 L1 L2 K2 O2 C1 T3 K3 O3 L3 C3 hM3 hg3 HWX HWB
    go_wp2
    go_region
    all_goals clear k0 y0 y1 y2 hmu
    all_goals go_wp2
    all_goals
      have hd3 : Below w3.heap.size w3 w3.drew := ⟨rfl, rfl, rfl, Nat.le_refl _, fun _ _ => rfl⟩
      have HL4 := Lib.hid (HL3.out.below hd3)
      have HK4 := Lib.hid (HK3.out.below hd3 HK3.out.lt)
      have HC4 := Lib.hid (HC3.out.below hd3)
      have l2 := cell_afterX l1 (.cells #[.slice v m d, .int .i64 en, .int .i64 co] 43)
    all_goals
      go_region_law (refine step_pushO _ (by rfl) _ _ (by rfl) B B la ln lc rs os (by rfl) (by exact HL4.out.alloc _) w3.heap.size v m d en co oc (by rfl) (by simp) (by simp) (by simp) (HC4.out.below (belA (Below.refl _ _))) (by omega) (by simp; omega) ?_; intro a8 c8 w8 hown8 hg8; have X8 := blk_row (HK4.out.alloc (.cells #[.slice v m d, .int .i64 en, .int .i64 co] 43)) (HL4.out.alloc (.cells #[.slice v m d, .int .i64 en, .int .i64 co] 43)).1 (by decide) hg8.1; have r1 := X8.cell (j := 1) rfl; have rf := X8.frozen 1)
    all_goals
      have HF := Lib.hid (setW_add HT3.out hd3 HK3.out HM3.out HL3.out HC3.out hown8 hg8 H2.out H4.out H6.out (fun i hi => HDD.out i (by omega)) hB H7.out H8.out HV.out HH9.out HBY.out hs3 X8)
      rw [← HADD.out] at HF
      clear X8 r1 rf hown8 hg8 hd3 HL4 HK4 HC4 l1 l2 lf o0 o1 o2
      go_wp2
      go_end0
      exact ⟨rfl, HF.out⟩
end Go.Proofs.YtmooecbdpfhnlaaGreat
