/- Joined texts of this proof (ImplAt, SpecIn, SpecAt, SpecOf, AtAns, AtMath), in build order. -/
import Derived.Test.YtmooecbdpfhnlaaGreatJ24
import Derived.Test.YtmooecbdpfhnlaaGreatJ28
import Derived.Test.YtmooecbdpfhnlaaGreatJ17
import Derived.Test.YtmooecbdpfhnlaaGreatJ10
import Derived.Test.YtmooecbdpfhnlaaGreatJ13
import Derived.Test.YtmooecbdpfhnlaaGreatJ27
/- The contract of the program's InputAt. -/
namespace Go.Proofs.YtmooecbdpfhnlaaGreat
open Go.RowKit Go.Shelf
attribute [local go_sem] Oper.semAt_some

/-- Whether there is such an input; its lows, its secrets. -/
noncomputable def atOk (p : Prg) (N : Int) : Bool := decide (codeB p = 0) && (decide (0 ≤ N) && decide (N < prodL (maxesP p)))
noncomputable def atL (p : Prg) (N : Int) : List Int := if atOk p N = true then (digs (maxesP p) N).take p.lows.length else []
noncomputable def atS (p : Prg) (N : Int) : List Int := if atOk p N = true then (digs (maxesP p) N).drop p.lows.length else []
/-- What InputAt leaves. -/
def AtAns (w : World) (p : Prg) (N : Int) (e : Ending) (w' : World) : Prop :=
  Below w.heap.size w w' ∧ ∃ s t : Sl, e = .returned (.tuple #[slV s, slV t, .bool (atOk p N)]) ∧ Own w' w.heap.size s.1 s.2.1 s.2.2 (atL p N) ∧ Own w' w.heap.size t.1 t.2.1 t.2.2 (atS p N) ∧ ∀ g, (slV s).ownBlock = some g → (slV t).ownBlock ≠ some g
theorem wide_of_max {p : Prg} (h : codeB p = 0) : ∀ m ∈ maxesP p, 0 ≤ m ∧ m ≤ 255 := by
  intro m hm
  obtain ⟨i, hi, rfl⟩ := List.getElem_of_mem hm
  have := (code_max h).2 i hi
  simpa [List.getD_eq_getElem?_getD, List.getElem?_eq_getElem hi] using this
theorem inRound_held {P : Program} {S : World → Prop} {id l m : Nat} {Q : Exit → Act → World → Prop} {a : Act} {w : World} {L : List Oper} (hm : P.follows .mixedOrders = true) (hd : (L.all fun o => match o.op with | .defer _ => false | _ => true) = true) (hQ : ¬ LetsOut Q)
    (h : wpAnyH P .any L.toArray Q S L.toArray.size (Array.replicate L.toArray.size false) a { w with drawn := w.drawn + 1 }) : (Code.region id L.toArray true).wpIn (Fence.wide.inRound l) m P Q a w := by
  refine wpIn_region_any hm (anyIn_of (fun j o ho c e => ?_) hQ _ _ _ _ (wpAny_of_held _ _ _ _ h))
  have hmem : o ∈ L := by have := Array.mem_of_getElem? ho; simpa using this
  have := List.all_eq_true.1 hd o hmem
  rw [e] at this
  cases this
/-- How its loop is left by the return within. -/
def StopAt (k : Nat) (w W0 : World) (p : Prg) (N : Int) (c : Code) (m : Nat) (W : World) : Prop :=
  c = .ret ∧ ∃ s t : Sl, Blk W (k + 1 + 1) 28 [slV s] ∧ Blk W (k + 1 + 1 + 1) 28 [slV t] ∧ Blk W (k + 1 + 1 + 1 + 1) 4 [.bool true] ∧ Own W m s.1 s.2.1 s.2.2 (atL p N) ∧ Own W m t.1 t.2.1 t.2.2 (atS p N) ∧ (∀ g, (slV s).ownBlock = some g → (slV t).ownBlock ≠ some g) ∧ atOk p N = true ∧ W0.heap.size ≤ W.heap.size ∧ Below w.heap.size w W ∧ W0.heap.size ≤ m
/-- Between two rounds. -/
def GoAt (W0 : World) (N : Int) (m : Nat) (pre : List EIn) (W : World) : Prop := (∀ x ∈ pre, (x.k : Int) ≠ N) ∧ m ≤ W.heap.size ∧ W0.heap.size ≤ m ∧ Below W0.heap.size W0 W
theorem belA {w w' : World} {o : Obj} (h : Below w.heap.size w w') : Below w.heap.size w (w'.alloc o) := h.alloc h.size _
end Go.Proofs.YtmooecbdpfhnlaaGreat
/- The contracts of the model's l7Maxes, l7Count, InputsIn and BitsIn. -/
namespace Go.Proofs.YtmooecbdpfhnlaaGreat
open Go.RowKit

theorem maxes_succ {ts : List Tm} {k : Nat} {x y : Int} (hk : k < ts.length) (hz : Hid (tmAt ts k = (x, y))) : maxesL (ts.take (k + 1)) = maxesL (ts.take k) ++ [x] := by
  have e : ts[k] = (x, y) := by have := hz.out; simpa [tmAt, List.getD_eq_getElem?_getD, List.getElem?_eq_getElem hk] using this
  simp [maxesL, List.take_add_one, List.getElem?_eq_getElem hk, e]
set_option maxHeartbeats 1600000 in
theorem l7Maxes_any (r : PRow) (p : Prg) (w : World) (h : ProgAt w r p) (hl1 : p.lows.length ≤ 3) (hl2 : p.secrets.length ≤ 3) :
    Calls Tryz.prog 55 #[progV r] w (MadeInts w (maxesP p)) := by
  obtain ⟨wd, ⟨a1, n1, c1⟩, ⟨a2, n2, c2⟩, tp, ⟨a3, n3, c3⟩, ⟨a4, n4, c4⟩, rows⟩ := r
  show Calls Tryz.prog 55 #[.agg #[.int .i64 wd, .slice a1 n1 c1, .slice a2 n2 c2, .int .i64 tp, .slice a3 n3 c3, .slice a4 n4 c4]] w _
  have h1 := h.lows
  have h2 := h.secrets
  simp only [] at h1 h2
  have L1 := Lib.hid h1.1
  have L2 := Lib.hid h2.1
  have hn1 : n1 ≤ 3 := by rw [← L1.out]; exact hl1
  have hn2 : n2 ≤ 3 := by rw [← L2.out]; exact hl2
  have H1 := Lib.hid h1
  have H2 := Lib.hid h2
  clear h h1 h2 hl1 hl2
  obtain ⟨wa, HW⟩ : ∃ wa, Hid (wa = w.alloc (.cells #[.int .i64 wd, .slice a1 n1 c1, .slice a2 n2 c2, .int .i64 tp, .slice a3 n3 c3, .slice a4 n4 c4] 31)) := ⟨_, rfl⟩
  have BX : Blk wa w.heap.size 31 [.int .i64 wd, .slice a1 n1 c1, .slice a2 n2 c2, .int .i64 tp, .slice a3 n3 c3, .slice a4 n4 c4] := by rw [HW.out]; exact Blk.new w _ _
  have HB : Below w.heap.size w wa := by rw [HW.out]; exact (Below.refl _ _).alloc (Nat.le_refl _) _
  have H1 := Lib.hid (H1.out.below (Nat.le_refl _) HB)
  have H2 := Lib.hid (H2.out.below (Nat.le_refl _) HB)
  have HX := Lib.hid BX
  have HSZ : Hid (wa.heap.size = w.heap.size + 1) := Lib.hid (by rw [HW.out]; simp)
  clear BX
  go_enter Tryz.func55, Tryz.ntmps55
  go_wp2_with fail
  rw [← HW.out]
  go_loopw [3, 4] (fun v i wr => ∃ (k : Nat) (a : Option Addr) (c : Nat), k ≤ n1 ∧ i = .int .i64 k ∧ v = .slice a k c ∧ Own wr wa.heap.size a k c (maxesL (p.lows.take k)) ∧ Below wa.heap.size wa wr) (fun _ i _ => n1 - (intOf i).toNat)
  case atStart => exact ⟨0, _, _, by omega, rfl, rfl, by have := own_empty wa wa.heap.size (Nat.le_refl _); simpa [HSZ.out, maxesL] using this, (Below.refl _ _).alloc (Nat.le_refl _) _⟩
  case round =>
    obtain ⟨k, a, c, hk, rfl, rfl, hown, hbel⟩ := hrel
    have hbs := hbel.size
    have t1 := (HX.out.below hbel HX.out.lt).cell (j := 1) rfl
    by_cases hlt : k < n1
    · obtain ⟨b, o, x, y, rfl, hb, hz, hin1, hin2, hc1, hc2⟩ := (H1.out.below (Nat.le_refl _) hbel).at_ hlt
      clear hc2 hin2
      go_wp2_with (at_builtin; refine wpList_push _ rfl _ _ rfl wa.heap.size _ _ _ (maxesL (p.lows.take k)) rfl (hown.alloc _) wr.heap.size x rfl (by simp) hin1 (by omega) (by simp; omega) ?_)
      intro a8 c8 w8 hown8 hg8
      have hb8 := below_push (hbel.alloc hbs _) (hown.alloc _) (by simp; omega) hg8
      rw [← maxes_succ (by rw [L1.out]; exact hlt) hz] at hown8
      clear hown hg8 hbel t1 hc1
      go_wp2
      go_roundw
      case rel => exact ⟨k + 1, a8, c8, by omega, by go_num, rfl, hown8, hb8⟩
      case measure => simp [intOf]; omega
    · obtain rfl : n1 = k := by omega
      have HO : Hid (Own wr wa.heap.size a n1 c (maxesL p.lows ++ maxesL (p.secrets.take 0))) := Lib.hid (by
        rw [List.take_of_length_le (by rw [L1.out]; exact Nat.le_refl _)] at hown
        simpa [maxesL] using hown)
      have HBE := Lib.hid hbel
      clear hown hbel
      go_wp2_with fail
      go_loopw [3, 5] (fun v i wr => ∃ (k : Nat) (a : Option Addr) (c : Nat), k ≤ n2 ∧ i = .int .i64 k ∧ v = .slice a (n1 + k) c ∧ Own wr wa.heap.size a (n1 + k) c (maxesL p.lows ++ maxesL (p.secrets.take k)) ∧ Below wa.heap.size wa wr) (fun _ i _ => n2 - (intOf i).toNat)
      case atStart => exact ⟨0, _, _, by omega, rfl, rfl, HO.out, HBE.out⟩
      case round =>
        clear HO HBE t1
        obtain ⟨k, a, c, hk, rfl, rfl, hown, hbel⟩ := hrel
        have hbs := hbel.size
        have t2 := (HX.out.below hbel HX.out.lt).cell (j := 2) rfl
        by_cases hlt : k < n2
        · obtain ⟨b, o, x, y, rfl, hb, hz, hin1, hin2, hc1, hc2⟩ := (H2.out.below (Nat.le_refl _) hbel).at_ hlt
          clear hc2 hin2
          go_wp2_with (at_builtin; refine wpList_push _ rfl _ _ rfl wa.heap.size _ _ _ (maxesL p.lows ++ maxesL (p.secrets.take k)) rfl (hown.alloc _) wr.heap.size x rfl (by simp) hin1 (by omega) (by simp; omega) ?_)
          intro a8 c8 w8 hown8 hg8
          have hb8 := below_push (hbel.alloc hbs _) (hown.alloc _) (by simp; omega) hg8
          rw [← maxes_succ (by rw [L2.out]; exact hlt) hz] at hown8
          clear hown hg8 hbel t2 hc1
          go_wp2
          go_roundw
          case rel => exact ⟨k + 1, a8, c8, by omega, by go_num, rfl, hown8, hb8⟩
          case measure => simp [intOf]; omega
        · obtain rfl : n2 = k := by omega
          rw [List.take_of_length_le (by rw [L2.out]; exact Nat.le_refl _), show maxesL p.lows ++ maxesL p.secrets = maxesP p by simp [maxesP, maxesL]] at hown
          have hown := hown.base HB.size
          have hbel := HB.trans (hbel.mono HB.size)
          go_wp2
          go_ret
          exact ⟨_, _, _, rfl, hown, hbel⟩
set_option maxHeartbeats 800000 in
theorem l7Count_any (a : Option Addr) (n c : Nat) (ms : List Int) (w : World) (h : Ints w a n ms) (hm : MaxOk ms) :
    Calls Tryz.prog 54 #[.slice a n c] w fun e w' => e = .returned (.int .i64 (countTo ms ms.length)) ∧ w = w' := by
  have HL := Lib.hid h.1
  have HM := Lib.hid hm
  have hn : n ≤ 6 := by rw [← HL.out]; exact hm.1
  clear hm
  go_enter Tryz.func54, Tryz.ntmps54
  go_wp2
  go_loop [3, 4] (fun q i => ∃ k : Nat, k ≤ n ∧ i = .int .i64 (k : Int) ∧ q = .int .i64 (countTo ms k)) (fun _ i => n - (intOf i).toNat)
  case atStart => exact ⟨0, Nat.zero_le _, rfl, rfl⟩
  case round =>
    obtain ⟨k, hk, rfl, rfl⟩ := hrel
    by_cases hlt : k < n
    · obtain ⟨b, o, z, rfl, hb, hz, hin, hc⟩ := h.at_ hlt
      obtain ⟨p1, p2⟩ := countTo_pos HM.out k (by rw [HL.out]; omega)
      obtain ⟨p3, p4⟩ := countTo_pos HM.out (k + 1) (by rw [HL.out]; omega)
      obtain ⟨z1, z2⟩ := HM.out.2 k (by rw [HL.out]; exact hlt)
      rw [← hz.out] at z1 z2
      have q1 : 256 ^ k ≤ 256 ^ 6 := Nat.pow_le_pow_right (by omega) (by omega)
      have q2 : 256 ^ (k + 1) ≤ 256 ^ 6 := Nat.pow_le_pow_right (by omega) (by omega)
      have HS : Hid (countTo ms (k + 1) = countTo ms k * (z + 1)) := Lib.hid (by rw [countTo, hz.out])
      rw [HS.out] at p3 p4
      have b2 : countTo ms k ≤ 281474976710656 := by omega
      have b4 : countTo ms k * (z + 1) ≤ 281474976710656 := by omega
      clear p2 p4 q1 q2
      generalize countTo ms k = Q at p1 p3 b2 b4 HS ⊢
      go_wp2
      go_round
      case rel => exact ⟨k + 1, by omega, by go_num, by rw [HS.out]⟩
      case measure => simp [intOf]; omega
    · obtain rfl : n = k := by omega
      go_wp2
      go_ret
      exact ⟨ret_int (by rw [HL.out]), rfl⟩
end Go.Proofs.YtmooecbdpfhnlaaGreat
/- The contract of the model's InputAt. -/
namespace Go.Proofs.YtmooecbdpfhnlaaGreat
open Go.RowKit

/-- What an append onto an empty literal at block b leaves: nothing, or a row there or behind N. -/
def Fix (w : World) (N b : Nat) (a : Option Addr) (m c : Nat) (ys : List Int) : Prop := m ≤ 1048576 ∧ ((m = 0 ∧ ys = []) ∨ ∃ g, a = some ⟨g, 0, none⟩ ∧ Own w 0 a m c ys ∧ (g = b ∨ N ≤ g))
theorem Fix.ints {w : World} {N b m c : Nat} {a : Option Addr} {ys : List Int} (h : Fix w N b a m c ys) : Ints w a m ys := by
  rcases h with ⟨_, ⟨rfl, rfl⟩ | ⟨g, rfl, ho, _⟩⟩
  · exact ⟨rfl, by omega, fun z hz => (by cases hz), fun hp => absurd hp (by omega)⟩
  · exact ho.ints
theorem Fix.below {w w' : World} {N b m c : Nat} {a : Option Addr} {ys : List Int} (h : Fix w N b a m c ys) (hb : Below w.heap.size w w') : Fix w' N b a m c ys := by
  rcases h with ⟨hm, h | ⟨g, hg, ho, hl⟩⟩
  · exact ⟨hm, .inl h⟩
  · exact ⟨hm, .inr ⟨g, hg, ho.below hb, hl⟩⟩
theorem Fix.other {w w' : World} {N b b' m c : Nat} {a : Option Addr} {ys : List Int} (h : Fix w N b a m c ys) (hg : w.grownBy w' (some b')) (hb : b' ≠ b) (hN : b' < N ∨ w.heap.size ≤ b') : Fix w' N b a m c ys := by
  rcases h with ⟨hm, h | ⟨g, rfl, ho, hl⟩⟩
  · exact ⟨hm, .inl h⟩
  · refine ⟨hm, .inr ⟨g, rfl, ho.keep hg (fun g' hg' e => ?_), hl⟩⟩
    have hg'' : some g = some g' := hg'
    injection hg'' with hg''
    injection e with e
    have := (ho.block g rfl).2
    omega
theorem belN {w w' : World} (h : Below w.heap.size w w') : Below w.heap.size w w'.drew := ⟨h.os, h.tape, h.output, h.size, h.block⟩
/-- What the model's InputAt leaves. -/
def AtSaid (w : World) (p : Prg) (N : Int) (e : Ending) (w' : World) : Prop :=
  Below w.heap.size w w' ∧ ∃ s t : Sl, e = .returned (.tuple #[slV s, slV t, .bool (atOk p N)]) ∧ Ints w' s.1 s.2.1 (atL p N) ∧ Ints w' t.1 t.2.1 (atS p N)
theorem l1In_any (x lo hi : Int) (w : World) : Calls Tryz.prog 71 #[.int .i64 x, .int .i64 lo, .int .i64 hi] w fun e w' => e = .returned (.bool (decide (lo ≤ x) && decide (x ≤ hi))) ∧ w' = w := by
  obtain ⟨R, HR⟩ : ∃ R, Hid ((decide (lo ≤ x) && decide (x ≤ hi)) = R) := ⟨_, rfl⟩
  rw [HR.out]
  go_enter Tryz.func71, Tryz.ntmps71
  by_cases h1 : lo ≤ x
  · by_cases h2 : x ≤ hi
    · obtain rfl : R = true := by rw [← HR.out, decide_eq_true h1, decide_eq_true h2]; rfl
      go_wp2
      go_ret
      exact ⟨rfl, rfl⟩
    · obtain rfl : R = false := by rw [← HR.out, decide_eq_false h2, Bool.and_false]
      go_wp2
      go_ret
      exact ⟨rfl, rfl⟩
  · obtain rfl : R = false := by rw [← HR.out, decide_eq_false h1, Bool.false_and]
    go_wp2
    go_ret
    exact ⟨rfl, rfl⟩
end Go.Proofs.YtmooecbdpfhnlaaGreat
/- The contract of the model's l6Of. -/
namespace Go.Proofs.YtmooecbdpfhnlaaGreat
open Go.RowKit

/-- A call of l6Of under way, its boxes in wa: the environment's box. -/
structure OB (wa wi : World) (b : Nat) (er : ERow) (q : Sta) : Prop where
  out : Blk wi b 90 [slV er.vars, slV er.cells]
  mem : EnvMem wi wa.heap.size er (none, 0, 0) q
  bel : Below wa.heap.size wa wi
  kb : wa.heap.size ≤ b
section
variable {w wi wj wk : World} {b : Nat} {er : ERow} {q : Sta}
theorem OB.below (h : OB w wi b er q) (hb : Below wi.heap.size wi wj) : OB w wj b er q :=
  ⟨h.out.below hb h.out.lt, h.mem.below hb, h.bel.trans (hb.mono h.bel.size), h.kb⟩
theorem OB.alloc (h : OB w wi b er q) (o : Obj) : OB w (wi.alloc o) b er q := h.below ((Below.refl _ _).alloc (Nat.le_refl _) o)
theorem OB.row {a1 : Option Addr} {c1 : Nat} {zs : List Int} {r : Sl} (h : OB w wi b er q) (hb : Below wi.heap.size wi wj) (hr : Own wj wi.heap.size r.1 r.2.1 r.2.2 zs)
    (ho : wk.ownsRow w.heap.size 28 1 (.slice a1 (er.cells.2.1 + 1) c1) (er.cells.2.1 + 1) ((er.rows ++ [r]).map slV)) (hn : er.cells.2.1 < 1048576) (hg : wj.grownBy wk (slV er.cells).ownBlock) :
    OB w (wk.setCell ⟨b, 1, none⟩ (.slice a1 (er.cells.2.1 + 1) c1)) b ⟨er.vars, (a1, er.cells.2.1 + 1, c1), er.rows ++ [r]⟩ ⟨q.vars, q.cells ++ [zs], q.outs⟩ := by
  have kb := h.kb
  have h2 := h.below hb
  have o1 := blk_row h2.out h2.mem.cells.1 (by decide) hg
  refine ⟨o1.set (j := 1) _, (h.mem.row hb h.bel.size hr (cs' := (a1, er.cells.2.1 + 1, c1)) ho rfl hn hg).set o1 (by decide) (by decide) _, ?_, kb⟩
  exact below_set (h2.bel.grown hg h2.bel.size (fun g e => (h2.mem.cells.1.lt g e).1)) (by omega) _
end
/-- Nothing but variables. -/
theorem envMem_vars {w : World} {B : Nat} {v : Sl} {zs : List Int} (h : Own w B v.1 v.2.1 v.2.2 zs) : EnvMem w B ⟨v, (none, 0, 0), []⟩ (none, 0, 0) ⟨zs, [], []⟩ :=
  ⟨h, ⟨World.ownsRow_nil _ _ _ _, Nat.zero_le _, rfl, fun i hi => absurd hi (by simp only []; omega)⟩, own_nil _ _, fun g _ e => by simp [slV, Value.ownBlock] at e, fun i g hi => absurd hi (by simp only []; omega), fun i g hi => absurd hi (by simp only []; omega), fun i j g hi => absurd hi (by simp only []; omega)⟩
/-- An outcome is told. -/
def AnsO (w : World) (zs : List Int) (rr : Rz) (e : Ending) (w' : World) : Prop :=
  Below w.heap.size w w' ∧ ∃ os : Sl, e = .returned (.agg #[slV os, .int .i64 rr.1, .int .i64 rr.2]) ∧ Own w' w.heap.size os.1 os.2.1 os.2.2 zs
theorem belK {w w' w'' : World} {B : Nat} {row : Option Nat} (h : Below B w w') (hg : w'.grownBy w'' row) (hB : B ≤ w'.heap.size) (hr : ∀ k, row = some k → B ≤ k) : Below B w w'' := h.grown hg hB hr
theorem cell_after {w8 : World} {k j : Nat} {v : Value} (h : w8.cell? ⟨k, j, none⟩ = some v) (o : Obj) : (w8.alloc o).cell? ⟨k, j, none⟩ = some v := by
  have hk : k < w8.heap.size := by
    rcases Nat.lt_or_ge k w8.heap.size with h' | h'
    · exact h'
    · simp [World.cell?, Array.getElem?_eq_none h'] at h
  exact ((belA (Below.refl _ w8)).cell hk).trans h
theorem blk_new1 (W : World) (o : Obj) (t : TypeId) (xs : List Value) : Blk ((W.alloc o).alloc (.cells xs.toArray t)) (W.heap.size + 1) t xs := by simpa using Blk.new (W.alloc o) t xs
theorem env_after {w8 w9 W : World} {B : Nat} {a : Option Addr} {n c : Nat} {zs : List Int} {xs : List Value} (hg : W.grownBy w9 (Value.slice a n c).ownBlock) (x : Own w8 B a n c zs) (hW : Blk W w8.heap.size 90 xs) : Blk w9 w8.heap.size 90 xs :=
  blk_keep hW hg (fun e => by have := (x.block _ e).2; omega)
theorem env_kept {w9 W : World} {B eb : Nat} {a : Option Addr} {n c : Nat} {zs : List Int} {xs : List Value} (hg : W.grownBy w9 (Value.slice a n c).ownBlock) (x : Own W B a n c zs) (hW : Blk W eb 90 xs) : Blk w9 eb 90 xs :=
  blk_row hW x.1 (by decide) hg
/-- Behind the two appends: the environment's box is new, or filled now. -/
theorem ob_new {wa w9 : World} {a9 : Option Addr} {m k9 : Nat} {zs : List Int} (hb : Below wa.heap.size wa w9) (x : Own w9 wa.heap.size a9 m k9 zs) :
    OB wa (w9.alloc (.cells #[.slice a9 m k9, .slice none 0 0] 90)) w9.heap.size ⟨(a9, m, k9), (none, 0, 0), []⟩ ⟨zs, [], []⟩ :=
  ⟨Blk.new w9 _ _, (envMem_vars (v := (a9, m, k9)) x).alloc _, belA hb, hb.size⟩
theorem ob_set {wa w9 : World} {a9 : Option Addr} {m k9 eb : Nat} {zs : List Int} (hb : Below wa.heap.size wa w9) (x : Own w9 wa.heap.size a9 m k9 zs)
    (he : Blk w9 eb 90 [.slice none 0 0, .slice none 0 0]) (hw : wa.heap.size ≤ eb) :
    OB wa ((w9.setCell ⟨eb, 0, none⟩ (.slice a9 m k9)).setCell ⟨eb, 1, none⟩ (.slice none 0 0)) eb ⟨(a9, m, k9), (none, 0, 0), []⟩ ⟨zs, [], []⟩ := by
  have e1 := he.set (j := 0) (.slice a9 m k9)
  have e2 := e1.set (j := 1) (.slice none 0 0)
  exact ⟨e2, ((envMem_vars (v := (a9, m, k9)) x).set he (by decide) (by decide) _).set e1 (by decide) (by decide) _, below_set (below_set hb hw _) hw _, hw⟩
set_option maxRecDepth 100000 in
set_option maxHeartbeats 6400000 in
theorem l6Of_any (r : PRow) (p : Prg) (a : Option Addr) (n c : Nat) (ls ss : List Int) (w : World) (h : ProgAt w r p) (h1 : Ints w a n (ls ++ ss)) (h0 : startB p ls ss = true) :
    Calls Tryz.prog 113 #[progV r, .slice a n c] w (AnsO w (outR p ls ss) (endR p ls ss)) := by
  unfold outR endR
  obtain ⟨s, hs, hrun⟩ := runX_spec h0
  have hc0 := startB_ok h0
  have hst := start_ok h0
  have hlen : p.body.length = r.body.2.1 := h.body.2.1
  have HR : Hid (∀ (wb w' : World) (b : Nat) (er : ERow), Below w.heap.size w wb → SB wb w' b r er (none, 0, 0) (startQ p ls ss) (0, 0) → Calls Tryz.prog 106 #[.pointer (some ⟨b, 0, none⟩), .int .i64 0, .int .i64 (r.body.2.1 : Int)] w' fun e w'' => e = .returned (.tuple #[]) ∧ ∃ os', SB wb w'' b r er os' (runX p ls ss).1 (runX p ls ss).2) := Lib.hid (fun wb w' b er hbw hsb => by
    rw [← hlen]
    exact srun_all p r er b wb hc0 (h.below hbw) p.body.length 0 (by omega) p.body.length s w' (none, 0, 0) (startQ p ls ss) _ _ (Nat.le_refl _) hsb hst (by simp [startQ]; omega) hrun)
  have hhd := code_head hc0
  have HAZ : Hid (∀ k, k < p.arrays.length → 1 ≤ p.arrays.getD k 0 ∧ p.arrays.getD k 0 ≤ 6) := Lib.hid (fun k hk => by
    have hrm := (code_parts hc0).2
    simp only [roomB, Bool.and_eq_true, decide_eq_true_eq, List.all_eq_true] at hrm
    exact hrm.2 _ (getD_mem hk))
  obtain ⟨T, hT⟩ : ∃ T : Nat, p.temps = (T : Int) := ⟨p.temps.toNat, by omega⟩
  have hT6 : T ≤ 6 := by omega
  have HTP : Hid (r.temps = (T : Int)) := Lib.hid (by rw [← hT]; exact h.temps)
  have HAR := Lib.hid h.arrays
  have HAL := Lib.hid h.arrays.1
  have hal2 : p.arrays.length ≤ 2 := by omega
  have HQS : Hid (∀ k, k = p.arrays.length → startQ p ls ss = ⟨ls ++ ss ++ List.replicate T 0, zeroTo p k, []⟩) := Lib.hid (fun k hk => by rw [zeroTo_all hk.symm, startQ, hT]; rfl)
  obtain ⟨q0, HQ0⟩ : ∃ q, Hid (startQ p ls ss = q) := ⟨_, Lib.hid rfl⟩
  obtain ⟨Q, HQ⟩ : ∃ Q, Hid (runX p ls ss = Q) := ⟨_, Lib.hid rfl⟩
  rw [HQ0.out] at HR HQS
  rw [HQ.out] at HR ⊢
  obtain ⟨Q1, en, co⟩ := Q
  have HMK := Lib.hid (fun (M : Nat) (hM : M ≤ 6) (w : World) => make_row M (by omega) w)
  have hin6 : n ≤ 1000 := by
    have l1 : (ls ++ ss).length = n := h1.1
    have hb := h0
    simp only [startB, Bool.and_eq_true] at hb
    have := (areB_ok hb.2.1).1
    have := (areB_ok hb.2.2).1
    rw [List.length_append] at l1
    omega
  have HI := Lib.hid h1
  clear h h1 h0 hrun hc0 hst hhd hs hlen hT HQ HQ0
  obtain ⟨zs, HZS⟩ : ∃ zs, Hid (ls ++ ss = zs) := ⟨_, Lib.hid rfl⟩
  rw [HZS.out] at HI HQS
  obtain ⟨wd, ⟨a1, n1, c1⟩, ⟨a2, n2, c2⟩, tp, ⟨a3, n3, c3⟩, ⟨a4, n4, c4⟩, rows⟩ := r
  simp only [] at HR HTP HAR HAL
  obtain rfl := HTP.out
  show Calls Tryz.prog 113 #[.agg #[.int .i64 wd, .slice a1 n1 c1, .slice a2 n2 c2, .int .i64 (T : Int), .slice a3 n3 c3, .slice a4 n4 c4], .slice a n c] w _
  obtain ⟨wa, HW⟩ : ∃ wa, Hid (wa = (w.alloc (.cells #[.int .i64 wd, .slice a1 n1 c1, .slice a2 n2 c2, .int .i64 (T : Int), .slice a3 n3 c3, .slice a4 n4 c4] 31)).alloc (.cells #[.slice none 0 0, .int .i64 0, .int .i64 0] 43)) := ⟨_, rfl⟩
  have NX : TwoB w wa 31 [.int .i64 wd, .slice a1 n1 c1, .slice a2 n2 c2, .int .i64 (T : Int), .slice a3 n3 c3, .slice a4 n4 c4] 43 [.slice none 0 0, .int .i64 0, .int .i64 0] := by rw [HW.out]; exact twob_new w _ _ _ _
  have HNX := Lib.hid NX
  have HI2 : Hid (∀ w', Below wa.heap.size wa w' → Ints w' a n zs) := Lib.hid (fun w' hb => (HI.out.below NX.bel).below hb)
  have HLT : Hid (w.heap.size + 2 ≤ wa.heap.size) := Lib.hid NX.lt
  have t3 := NX.arg.cell (j := 3) rfl
  clear NX HI
  go_enter Tryz.func113, Tryz.ntmps113
  go_upto_region 1 with fail
  rw [← HW.out]
  clear HW
  go_cut [5] (fun t5 wx => ∃ (eb : Nat) (va : Option Addr) (vc : Nat), t5 = .pointer (some ⟨eb, 0, none⟩) ∧ OB wa wx eb ⟨(va, n + T, vc), (none, 0, 0), []⟩ ⟨zs ++ List.replicate T 0, [], []⟩)
  case first =>
    have c3 := cell_after t3 (.cells #[] 2)
    have c4 := cell_after t3 (.cells #[.slice none 0 0, .slice none 0 0] 90)
    have c5 := cell_after c3 (.cells #[.slice none 0 0, .slice none 0 0] 90)
    have c6 := cell_after c4 (.cells #[] 2)
    go_region_law (first
      | (refine step_ints _ (by rfl) _ _ (by rfl) wa.heap.size _ 0 0 [] (by rfl) (by have := HLT.out; first | exact own_emptyB _ _ _ rfl (by omega) | exact own_drew (own_emptyB _ _ _ rfl (by omega)) | exact (own_emptyB _ _ _ rfl (by omega)).alloc _ | exact own_drew ((own_emptyB _ _ _ rfl (by omega)).alloc _) | exact own_emptyB _ _ _ (by simp) (by omega) | exact own_drew (own_emptyB _ _ _ (by simp) (by omega))) _ n c zs (by rfl) (HI2.out _ (by repeat' (first | exact Below.refl _ _ | refine belA ?_ | refine belN ?_))) (by omega) (by first | (simp; done) | (simp; omega)) ?_; intro a8 k8 w8 x8 y8; have x8 := own_zero x8
         have z8 : w8.cell? ⟨w.heap.size, 3, none⟩ = some (.int .i64 (T : Int)) := y8.cell (by first | exact cell_after t3 _ | exact cell_after (cell_after t3 _) _) (by have := HLT.out; simp [Value.ownBlock]; omega)
         have z8b := cell_after z8 (.cells #[.slice none 0 0, .slice none 0 0] 90)
         have hb8 : Below wa.heap.size wa w8 := belK (by repeat' (first | exact Below.refl _ _ | refine belA ?_ | refine belN ?_)) y8 (by first | (simp; done) | (simp; omega)) (by simp [Value.ownBlock])
         try (have b8 := blk_keep (b := wa.heap.size + 1) (t := 90) (xs := [.slice none 0 0, .slice none 0 0]) (by exact blk_new1 wa _ _ _) y8 (by simp [Value.ownBlock]))
         try (have b8 := blk_keep (b := wa.heap.size) (t := 90) (xs := [.slice none 0 0, .slice none 0 0]) (by exact (Blk.new wa _ _).alloc _) y8 (by simp [Value.ownBlock])))
      | (refine step_zeros _ (by rfl) _ _ (by rfl) wa.heap.size _ _ _ _ (by rfl) (by first | exact x8 | exact own_drew x8 | exact x8.alloc _ | exact own_drew (x8.alloc _)) T (by rfl) (by omega) (by have := hb8.size; have := HLT.out; first | omega | (simp at this ⊢; omega) | (simp; omega)) ?_; intro a9 k9 w9 x9 y9
         have hb9 : Below wa.heap.size wa w9 := belK (by first | exact hb8 | exact belN hb8 | exact belA hb8 | exact belN (belA hb8)) y9 (by have := hb8.size; first | omega | (simp; omega)) (fun g e => (x8.block g e).1)
         try (have bx := env_after y9 x8 (by exact Blk.new w8 _ _); have e0 := bx.cell (j := 0) rfl; have e1 := bx.cell (j := 1) rfl; have f0 := bx.frozen 0; have f1 := bx.frozen 1)
         try (have bx := env_kept y9 x8 b8; have e0 := bx.cell (j := 0) rfl; have e1 := bx.cell (j := 1) rfl; have f0 := bx.frozen 0; have f1 := bx.frozen 1)))
    all_goals
      go_wp2_with fail
      go_meet
      first
        | exact ⟨_, _, _, rfl, ob_new hb9 x9⟩
        | exact ⟨_, _, _, rfl, ob_set hb9 x9 bx (by first | omega | (have := hb8.size; omega))⟩
  case rest =>
    obtain ⟨eb, va, vc, rfl, HQ⟩ := hcut
    have HARA : Hid (Ints wa a3 n3 p.arrays) := Lib.hid (HAR.out.below HNX.out.bel)
    clear t3 HI2
    have hn5 : n3 ≤ 2 := by have := HAL.out; omega
    obtain ⟨vn, HVN⟩ : ∃ vn, Hid (n + T = vn) := ⟨_, rfl⟩
    rw [HVN.out] at HQ
    have HREL : Hid (∃ (ca : Option Addr) (cc : Nat) (rws : List Sl), OB wa wc eb ⟨(va, vn, vc), (ca, 0, cc), rws⟩ ⟨zs ++ List.replicate T 0, zeroTo p 0, []⟩) := Lib.hid ⟨_, _, _, HQ⟩
    clear HQ HVN
    go_wp2_with fail
    go_loopw [6] (fun i wr => ∃ (k : Nat) (ca : Option Addr) (cc : Nat) (rws : List Sl), k ≤ n3 ∧ i = .int .i64 (k : Int) ∧ OB wa wr eb ⟨(va, vn, vc), (ca, k, cc), rws⟩ ⟨zs ++ List.replicate T 0, zeroTo p k, []⟩) (fun i _ => n3 - (intOf i).toNat)
    case atStart => obtain ⟨ca, cc, rws, hq⟩ := HREL.out; exact ⟨0, ca, cc, rws, Nat.zero_le _, rfl, hq⟩
    case round =>
      clear HREL
      obtain ⟨k, ca, cc, rws, hk, rfl, HQ⟩ := hrel
      have hnx := HNX.out.below (show Below wa.heap.size wa wr from HQ.bel)
      have g4 := hnx.arg.cell (j := 4) rfl
      by_cases hlt : k < n3
      · obtain ⟨b3, o3, z, rfl, hb3, hz3, hin3, hc3⟩ := (HARA.out.below HQ.bel).at_ hlt
        obtain ⟨z1, z2⟩ := HAZ.out k (by rw [HAL.out]; exact hlt)
        rw [← hz3.out] at z1 z2
        obtain ⟨M, rfl⟩ : ∃ M : Nat, z = (M : Int) := ⟨z.toNat, by omega⟩
        have hM6 : M ≤ 6 := by omega
        have HZ := Lib.hid (zeroTo_succ (by rw [HAL.out]; exact hlt) hz3)
        have hmk2 := HMK.out M hM6
        have hd : Below wr.heap.size wr wr.drew := ⟨rfl, rfl, rfl, Nat.le_refl _, fun _ _ => rfl⟩
        have HG0 := Lib.hid (HQ.below hd)
        have u1 := HQ.out.cell (j := 1) rfl
        have uf := HQ.out.frozen 1
        have v1 := (HQ.alloc (.cells (madeCells #[.int .i64 0] M) 2)).out.cell (j := 1) rfl
        have v2 := ((HQ.alloc (.cells (madeCells #[.int .i64 0] M) 2)).alloc (.cells #[.slice (some ⟨wr.heap.size, 0, none⟩) M M] 28)).out.cell (j := 1) rfl
        simp only [slV] at u1 v1 v2
        clear HQ hz3 z1 z2 hin3 hd hnx
        go_wp2_with fail
        go_region_law (refine step_pushR _ (by rfl) _ _ (by rfl) wa.heap.size ca k cc rws (by rfl) (by exact (HG0.out.mem.cells.1.alloc _).alloc _) (wr.heap.size + 1) (some ⟨wr.heap.size, 0, none⟩, M, M) (by rfl) (by simp [slV]) (by omega) (by have := HG0.out.bel.size; simp at this ⊢; omega) ?_; intro a9 c9 w9 ho9 hg9; have Q1 := HG0.out.row (wj := (wr.drew.alloc (.cells (madeCells #[.int .i64 0] M) 2)).alloc (.cells #[.slice (some ⟨wr.heap.size, 0, none⟩) M M] 28)) (((Below.refl _ _).alloc (Nat.le_refl _) _).alloc (by simp) _) (r := (some ⟨wr.heap.size, 0, none⟩, M, M)) ((own_made wr.drew M (by omega)).alloc _) ho9 (by simp only []; omega) hg9.1; have y0 := (blk_row ((HG0.out.alloc _).alloc _).out ((HG0.out.alloc _).alloc _).mem.cells.1 (by decide) hg9.1).cell (j := 1) rfl; have yf := (blk_row ((HG0.out.alloc _).alloc _).out ((HG0.out.alloc _).alloc _).mem.cells.1 (by decide) hg9.1).frozen 1; simp only [slV] at y0)
        all_goals
          have HQ1 : Hid (OB wa (w9.setCell ⟨eb, 1, none⟩ (.slice a9 (k + 1) c9)) eb ⟨(va, vn, vc), (a9, k + 1, c9), rws ++ [(some ⟨wr.heap.size, 0, none⟩, M, M)]⟩ ⟨zs ++ List.replicate T 0, zeroTo p (k + 1), []⟩) := Lib.hid (by rw [HZ.out, Int.toNat_natCast]; exact Q1)
          clear Q1 y0 yf ho9 hg9 u1 v1 v2 uf HG0 hmk2 hc3 g4
          go_wp2
          go_roundw
          case rel => exact ⟨k + 1, a9, c9, _, by omega, by go_num, HQ1.out⟩
          case measure => simp [intOf]; omega
      · obtain rfl : n3 = k := by omega
        have hqs := HQS.out n3 HAL.out.symm
        rw [← hqs] at HQ
        have e0 := HQ.out.cell (j := 0) rfl
        have e1 := HQ.out.cell (j := 1) rfl
        have p0 := hnx.arg.cell (j := 0) rfl
        have p1 := hnx.arg.cell (j := 1) rfl
        have p2 := hnx.arg.cell (j := 2) rfl
        have p3 := hnx.arg.cell (j := 3) rfl
        have p5 := hnx.arg.cell (j := 5) rfl
        simp only [slV] at e0 e1
        obtain ⟨wy, HWY⟩ : ∃ wy, Hid (wy = wr.alloc (.cells #[.int .i64 wd, .slice a1 n1 c1, .slice a2 n2 c2, .int .i64 (T : Int), .slice a3 n3 c3, .slice a4 n4 c4, .slice va vn vc, .slice ca n3 cc, .slice none 0 0, .int .i64 0, .int .i64 0, .bool false] 109)) := ⟨_, rfl⟩
        have HQY : OB wa wy eb ⟨(va, vn, vc), (ca, n3, cc), rws⟩ q0 := by rw [HWY.out]; exact HQ.alloc _
        have SX : SB wa wy wr.heap.size ⟨wd, (a1, n1, c1), (a2, n2, c2), (T : Int), (a3, n3, c3), (a4, n4, c4), rows⟩ ⟨(va, vn, vc), (ca, n3, cc), rws⟩ (none, 0, 0) q0 (0, 0) := ⟨HQY.bel, HQ.bel.size, by rw [HWY.out]; exact Blk.new wr _ _, HQY.mem⟩
        have HRC := Lib.hid (HR.out wa wy wr.heap.size _ HNX.out.bel SX)
        have p6 := (HNX.out.below (show Below wa.heap.size wa wy from HQY.bel)).arg.cell (j := 5) rfl
        rw [HWY.out] at p6
        clear SX hqs hnx HQ HQY
        go_wp2_with fail
        rw [← HWY.out]
        refine HRC.out.mono ?_
        rintro e w2 ⟨rfl, ⟨oa, on, oc⟩, hr⟩
        have N1 := HNX.out.below (show Below wa.heap.size wa w2 from hr.bel)
        have hlt1 := HNX.out.lt
        have k8 := hr.box.cell (j := 8) rfl
        have k9 := hr.box.cell (j := 9) rfl
        have k10 := hr.box.cell (j := 10) rfl
        simp only [slV] at k8
        have q0 := N1.res.cell (j := 0) rfl
        have q1 := N1.res.cell (j := 1) rfl
        have q2 := N1.res.cell (j := 2) rfl
        have f0 := N1.res.frozen 0
        have f1 := N1.res.frozen 1
        have f2 := N1.res.frozen 2
        have N3 := (((N1.res.set (j := 0) (.slice oa on oc)).set (j := 1) (.int .i64 en)).set (j := 2) (.int .i64 co))
        have d0 := N3.cell (j := 0) rfl
        have d1 := N3.cell (j := 1) rfl
        have d2 := N3.cell (j := 2) rfl
        have HF := Lib.hid (below_set3 N1.bel (.slice oa on oc) (.int .i64 en) (.int .i64 co))
        have HO := Lib.hid ((((hr.mem.outs.set (j := 0) hlt1 (.slice oa on oc)).set (j := 1) hlt1 (.int .i64 en)).set (j := 2) hlt1 (.int .i64 co)).base HNX.out.bel.size)
        clear N1 N3 hr HRC e0 e1 p0 p1 p2 p3 p5 p6 g4 HWY
        go_wp2
        refine bodyPost_ret (v := .agg #[.slice oa on oc, .int .i64 en, .int .i64 co]) (by simp [results, Tryz.results113, go_sem, d0, d1, d2]) rfl ?_
        exact ⟨HF.out, (oa, on, oc), rfl, HO.out⟩
end Go.Proofs.YtmooecbdpfhnlaaGreat
/- The answers of InputAt, as a law asks for them. -/
namespace Go.Proofs.YtmooecbdpfhnlaaGreat
open Go.RowKit

end Go.Proofs.YtmooecbdpfhnlaaGreat
/- The number of an input leads back to it: plain mathematics. -/
namespace Go.Proofs.YtmooecbdpfhnlaaGreat
open Go.RowKit

theorem at_app {p : Prg} {N : Int} (h : atOk p N = true) : atL p N ++ atS p N = digs (maxesP p) N := by
  rw [atL, atS, if_pos h, if_pos h, List.take_append_drop]
theorem digs_le : ∀ {ms : List Int}, (∀ m ∈ ms, 0 ≤ m) → ∀ (n : Int) (i : Nat), i < ms.length → 0 ≤ (digs ms n).getD i 0 ∧ (digs ms n).getD i 0 ≤ ms.getD i 0
  | [], _, _, i, hi => absurd hi (by simp)
  | m :: ms, h, n, 0, _ => by
    have hm := h m (List.mem_cons_self)
    have h1 := Int.emod_nonneg n (show m + 1 ≠ 0 by omega)
    have h2 := Int.emod_lt_of_pos n (show 0 < m + 1 by omega)
    rw [digs, List.getD_cons_zero, List.getD_cons_zero]
    omega
  | m :: ms, h, n, i + 1, hi => by
    rw [digs, List.getD_cons_succ, List.getD_cons_succ]
    exact digs_le (fun x hx => h x (List.mem_cons_of_mem _ hx)) _ i (by simpa using hi)
/-- There is a start at each input. -/
theorem at_start {p : Prg} {N : Int} (h : atOk p N = true) : startB p (atL p N) (atS p N) = true := by
  have hz : codeB p = 0 := by simp [atOk] at h; exact h.1
  have hw := wide_of_max hz
  have hle := digs_le (fun m hm => (hw m hm).1) N
  have hlen : (maxesP p).length = p.lows.length + p.secrets.length := maxesP_len p
  have hdl := digs_len (maxesP p) N
  have e1 : (codeB p == 0) = true := by simpa using hz
  rw [startB, e1, Bool.true_and]
  have hL : atL p N = (digs (maxesP p) N).take p.lows.length := by rw [atL, if_pos h]
  have hS : atS p N = (digs (maxesP p) N).drop p.lows.length := by rw [atS, if_pos h]
  have l1 : (atL p N).length = p.lows.length := by rw [hL, List.length_take]; omega
  have l2 : (atS p N).length = p.secrets.length := by rw [hS, List.length_drop]; omega
  have a1 : areB p.lows (atL p N) = true := areB_all l1 (fun i hi => by
    have hi' : i < p.lows.length := by omega
    have := hle i (by omega)
    rw [maxesP, maxesL_getD (by rw [List.length_append]; omega), tmAt_app_left hi'] at this
    rw [hL]
    simpa [List.getD_eq_getElem?_getD, List.getElem?_take, hi', maxesP] using this)
  have a2 : areB p.secrets (atS p N) = true := areB_all l2 (fun i hi => by
    have hi' : i < p.secrets.length := by omega
    have := hle (p.lows.length + i) (by omega)
    rw [maxesP, maxesL_getD (by rw [List.length_append]; omega), tmAt_app_right] at this
    rw [hS]
    simpa [List.getD_eq_getElem?_getD, List.getElem?_drop, maxesP] using this)
  rw [a1, a2]; rfl
end Go.Proofs.YtmooecbdpfhnlaaGreat
