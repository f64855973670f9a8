/- Joined texts of this proof (Surround, FoldMath, FormLaw, TrapMath), in build order. -/
import Derived.Test.YtmooecbdpfhnlaaT18
import Derived.Test.YtmooecbdpfhnlaaT26
import Derived.Test.YtmooecbdpfhnlaaT29
import Derived.Deep.RegionLaw
import Derived.Test.YtmooecbdpfhnlaaT17
/- The contract of the laws' own draw of an environment: surroundings. -/
namespace Go.Proofs.Ytmooecbdpfhnlaa
open Go.RowKit

theorem OwnIS.other {w w' : World} {B : Nat} {a : Option Addr} {n c : Nat} {rs : List Sl} {css : List (List Int)} {row : Option Nat} (h : OwnIS w B a n c rs css) (hg : w.grownBy w' row) (hr : ∀ g, row = some g → g < B) : OwnIS w' B a n c rs css := by
  refine ⟨h.1.kept hg ?_, h.2.1, h.2.2.1, fun i hi => (h.2.2.2 i hi).other hg hr⟩
  cases hv : (Value.slice a n c).ownBlock with
  | none => exact .inl rfl
  | some g =>
    refine .inr fun e => ?_
    have := hr g e.symm
    have := (h.1.lt g hv).1
    omega
theorem ownIS_nil (w : World) (B : Nat) : OwnIS w B none 0 0 [] [] := ⟨World.ownsRow_nil _ _ _ _, by omega, rfl, fun i hi => absurd hi (by omega)⟩
/-- An environment of that program was drawn. -/
def DrewE (w : World) (p : Nat) (P : Prg) (e : Ending) (w' : World) : Prop :=
  ∃ er v, e = .returned (envV er) ∧ (∀ w'', w'.grownBy w'' (some p) → EnvAt w'' er v) ∧ envB P v = true ∧ Dice w' p ∧ w.grownBy w' (some p)
/-- The draw under way. -/
structure SBx (w wi : World) (p : Nat) (pc : List Value) (va : Option Addr) (vn vc : Nat) (zs : List Int) (ca : Option Addr) (cn cc : Nat) (rs : List Sl) (css : List (List Int)) : Prop where
  arg : Blk wi w.heap.size 28 pc
  res : Blk wi (w.heap.size + 1) 53 [.slice none 0 0, .slice none 0 0]
  out : Blk wi (w.heap.size + 2) 53 [.slice va vn vc, .slice ca cn cc]
  vars : Own wi (w.heap.size + 3) va vn vc zs
  cells : OwnIS wi (w.heap.size + 3) ca cn cc rs css
  gen : Dice wi p
  grown : w.grownBy wi (some p)
  old : p < w.heap.size
section
variable {w wi wj : World} {p : Nat} {pc : List Value} {va ca : Option Addr} {vn vc cn cc : Nat} {zs : List Int} {rs : List Sl} {css : List (List Int)}
theorem SBx.step (h : SBx w wi p pc va vn vc zs ca cn cc rs css) (hd : Dice wj p) (hg : wi.grownBy wj (some p)) : SBx w wj p pc va vn vc zs ca cn cc rs css := by
  have q := h.old
  exact ⟨h.arg.gen hg (by omega), h.res.gen hg (by omega), h.out.gen hg (by omega), h.vars.other hg (fun g e => by injection e with e; omega), h.cells.other hg (fun g e => by injection e with e; omega), hd, only_trans h.grown hg, q⟩
theorem SBx.below (h : SBx w wi p pc va vn vc zs ca cn cc rs css) (hb : Below wi.heap.size wi wj) : SBx w wj p pc va vn vc zs ca cn cc rs css :=
  ⟨h.arg.below hb h.arg.lt, h.res.below hb h.res.lt, h.out.below hb h.out.lt, h.vars.below hb, h.cells.below hb, h.gen.below hb, only_more h.grown (only_below hb none) (fun g e => by cases e), h.old⟩
theorem SBx.alloc (h : SBx w wi p pc va vn vc zs ca cn cc rs css) (o : Obj) : SBx w (wi.alloc o) p pc va vn vc zs ca cn cc rs css := h.below ((Below.refl _ _).alloc (Nat.le_refl _) o)
theorem SBx.base (h : SBx w wi p pc va vn vc zs ca cn cc rs css) : w.heap.size + 3 ≤ wi.heap.size := h.out.lt
theorem Blk.far {b : Nat} {t : TypeId} {xs : List Value} {row : Option Nat} (h : Blk wi b t xs) (hg : wi.grownBy wj row) (hr : ∀ g, row = some g → b < g) : Blk wj b t xs := (hg.block b h.lt (fun e => by have := hr b e.symm; omega)).trans h
/-- One variable more. -/
theorem SBx.var {a1 : Option Addr} {c1 : Nat} {z : Int} (h : SBx w wi p pc va vn vc zs none 0 0 [] []) (ho : Own wj (w.heap.size + 3) a1 (vn + 1) c1 (zs ++ [z])) (hg : wi.grownBy wj (Value.slice va vn vc).ownBlock) : SBx w (wj.setCell ⟨w.heap.size + 2, 0, none⟩ (.slice a1 (vn + 1) c1)) p pc a1 (vn + 1) c1 (zs ++ [z]) none 0 0 [] [] := by
  have q := h.old
  have hr : ∀ g, (Value.slice va vn vc).ownBlock = some g → w.heap.size + 3 ≤ g := fun g e => (h.vars.block g e).1
  have hs := grown_set wj (w.heap.size + 2) 0 (.slice a1 (vn + 1) c1)
  have o1 := h.out.far hg (fun g e => by have := hr g e; omega)
  exact ⟨(h.arg.far hg (fun g e => by have := hr g e; omega)).gen hs (by omega), (h.res.far hg (fun g e => by have := hr g e; omega)).gen hs (by omega), o1.set (j := 0) _, ho.other hs (fun g e => by injection e with e; omega), ownIS_nil _ _, (h.gen.other hg (fun g e => by have := hr g e; omega)).other hs (fun g e => by injection e with e; omega), only_more (only_more h.grown hg (fun g e => by have := hr g e; omega)) hs (fun g e => by injection e with e; omega), q⟩
/-- A row of the call's own, newer than N, has grown. -/
theorem SBx.newer {la : Option Addr} {ln lc N : Nat} {ls : List Int} (h : SBx w wi p pc va vn vc zs none 0 0 [] []) (hl : Own wi N la ln lc ls) (hN : w.heap.size + 3 ≤ N) (hv : ∀ g, (Value.slice va vn vc).ownBlock = some g → g < N) (hg : wi.grownBy wj (Value.slice la ln lc).ownBlock) : SBx w wj p pc va vn vc zs none 0 0 [] [] := by
  have q := h.old
  have hr : ∀ g, (Value.slice la ln lc).ownBlock = some g → N ≤ g := fun g e => (hl.block g e).1
  exact ⟨h.arg.far hg (fun g e => by have := hr g e; omega), h.res.far hg (fun g e => by have := hr g e; omega), h.out.far hg (fun g e => by have := hr g e; omega), h.vars.apart hg hv hr, ownIS_nil _ _, h.gen.other hg (fun g e => by have := hr g e; omega), only_more h.grown hg (fun g e => by have := hr g e; omega), q⟩
/-- One list of cells. -/
theorem SBx.cell {wk : World} {la a1 : Option Addr} {ln lc c1 N : Nat} {ls : List Int} (h : SBx w wi p pc va vn vc zs none 0 0 [] []) (hl : Own wi N la ln lc ls) (hN : w.heap.size + 3 ≤ N) (hb : Below wi.heap.size wi wk) (ho : wk.ownsRow (w.heap.size + 3) 25 1 (.slice a1 1 c1) 1 [.slice la ln lc]) : SBx w (wk.setCell ⟨w.heap.size + 2, 1, none⟩ (.slice a1 1 c1)) p pc va vn vc zs a1 1 c1 [(la, ln, lc)] [ls] := by
  have h1 := h.below hb
  have q := h.old
  have hs := grown_set wk (w.heap.size + 2) 1 (.slice a1 1 c1)
  refine ⟨h1.arg.gen hs (by omega), h1.res.gen hs (by omega), h1.out.set (j := 1) _, h1.vars.other hs (fun g e => by injection e with e; omega), ?_, h1.gen.other hs (fun g e => by injection e with e; omega), only_more h1.grown hs (fun g e => by injection e with e; omega), q⟩
  refine OwnIS.other (w := wk) ⟨ho, by omega, rfl, fun i hi => ?_⟩ hs (fun g e => by injection e with e; omega)
  obtain rfl : i = 0 := by omega
  exact ((hl.below hb).base hN)
end
theorem sbx_new (w : World) (p : Nat) (pc : List Value) (hD : Dice w p) : SBx w (((w.alloc (.cells pc.toArray 28)).alloc (.cells #[.slice none 0 0, .slice none 0 0] 53)).alloc (.cells #[.slice none 0 0, .slice none 0 0] 53)) p pc none 0 0 [] none 0 0 [] [] :=
  ⟨((Blk.new w _ _).alloc _).alloc _, (by simpa using Blk.new (w.alloc _) 53 [.slice none 0 0, .slice none 0 0] : Blk _ _ _ _).alloc _, by simpa using Blk.new ((w.alloc _).alloc _) 53 [.slice none 0 0, .slice none 0 0], own_nil _ _, ownIS_nil _ _, ((hD.alloc _).alloc _).alloc _, only_alloc (only_alloc (only_alloc (World.grownBy.refl _ _) _) _) _, hD.lt⟩
def InS (S : Nat) (zs : List Int) : Prop := ∀ z ∈ zs, 0 ≤ z ∧ z < (S : Int)
theorem InS.snoc {S : Nat} {zs : List Int} {z : Int} (h : InS S zs) (h0 : 0 ≤ z) (h1 : z ≤ (S : Int) - 1) : InS S (zs ++ [z]) := by
  intro y hy
  rcases List.mem_append.1 hy with hy | hy
  · exact h y hy
  · rw [List.mem_singleton] at hy; subst hy; omega
theorem InS.vals {S : Nat} {zs : List Int} (h : InS S zs) {m : Int} (hl : (zs.length : Int) = m) : valB S m zs = true := by
  simp only [valB, valsB, Bool.and_eq_true, decide_eq_true_eq, List.all_eq_true]
  exact ⟨hl, fun z hz => h z hz⟩
set_option maxRecDepth 20000 in
set_option maxHeartbeats 6400000 in
theorem surroundings_any (r : PRow) (P : Prg) (l s b s' b' : Int) (A p : Nat) (w : World) (hP : ProgAt w r P) (hH : Head r A) (hok : codeB P = 0) (hDr : Drawn P l s b s' b' A) (hD : Dice w p) (hpn : ∀ ba oa, r.arrays.1 = some ⟨ba, oa, none⟩ → ba ≠ p) :
    Calls Try.prog 27 #[.pointer (some ⟨p, 0, none⟩), progV r] w (DrewE w p P) := by
  have hwd := hP.width
  have hw23 := hDr.width
  have harr := hP.arrays
  have hsz := hDr.sizes
  have hla := hDr.arrays
  have HENV : Hid (∀ (v : Envr), InS (2 ^ P.width.toNat) v.vars → v.vars.length = 5 → v.cells.length = A → (∀ i, i < A → InS (2 ^ P.width.toNat) (intsAt v.cells i) ∧ ((intsAt v.cells i).length : Int) = P.arrays.getD i 0) → envB P v = true) := Lib.hid (fun v h1 h2 h3 h4 => by
    simp only [envB, Bool.and_eq_true, beq_iff_eq, decide_eq_true_eq]
    refine ⟨⟨hok, h1.vals ?_⟩, by rw [h3, hla], ?_⟩
    · rw [h2, hDr.lows, hDr.secrets, hDr.temps]; rfl
    · simp only [cellsB, List.all_eq_true, List.mem_range]
      intro i hi
      rw [h3] at hi
      exact (h4 i hi).1.vals (h4 i hi).2)
  obtain ⟨wd, ⟨a1, n1, c1⟩, ⟨a2, n2, c2⟩, tp, ⟨a3, n3, c3⟩, ⟨a4, n4, c4⟩, rows⟩ := r
  obtain ⟨h1, h2, h3, h4, hA⟩ := hH
  simp only [] at h1 h2 h3 h4 hwd harr hpn
  have HPN := Lib.hid hpn
  clear hpn
  subst h1 h2 h3 h4
  have HA := Lib.hid harr
  have HSZ := Lib.hid hsz
  have HLA := Lib.hid hla
  obtain ⟨W, HWd⟩ : ∃ W : Nat, Hid (P.width.toNat = W) := ⟨_, Lib.hid rfl⟩
  obtain ⟨S, HS⟩ : ∃ S : Nat, Hid (2 ^ W = S) := ⟨_, Lib.hid rfl⟩
  rw [HWd.out, HS.out] at HENV
  have hW : wd = (W : Int) := by have := HWd.out; omega
  have hS2 : S = 4 ∨ S = 8 := by
    rw [← HS.out]
    have : W = 2 ∨ W = 3 := by omega
    rcases this with rfl | rfl
    · exact .inl rfl
    · exact .inr rfl
  have hsh : Op.shift .shl .i64 1 .i64 wd = pure (.int .i64 (S : Int)) := by
    have e : W = 2 ∨ W = 3 := by omega
    rw [hW, ← HS.out]
    rcases e with rfl | rfl <;> rfl
  subst hW
  clear harr hsz hla hDr hok hP hwd hw23 HWd HS
  show Calls Try.prog 27 #[.pointer (some ⟨p, 0, none⟩), .agg #[.int .i64 (W : Int), .slice a1 1 c1, .slice a2 2 c2, .int .i64 2, .slice a3 n3 c3, .slice a4 n4 c4]] w _
  obtain ⟨wa, HW⟩ : ∃ wa, Hid (wa = ((w.alloc (.cells #[.int .i64 (W : Int), .slice a1 1 c1, .slice a2 2 c2, .int .i64 2, .slice a3 n3 c3, .slice a4 n4 c4] 28)).alloc (.cells #[.slice none 0 0, .slice none 0 0] 53)).alloc (.cells #[.slice none 0 0, .slice none 0 0] 53)) := ⟨_, rfl⟩
  have BX : SBx w wa p [.int .i64 (W : Int), .slice a1 1 c1, .slice a2 2 c2, .int .i64 2, .slice a3 n3 c3, .slice a4 n4 c4] none 0 0 [] none 0 0 [] [] := by rw [HW.out]; exact sbx_new w p _ hD
  go_enter Try.func27, Try.ntmps27
  go_wp2_with fail
  rw [← HW.out]
  clear HW hD
  go_loopw [7] (fun iv wr => ∃ (k vc : Nat) (va : Option Addr) (zs : List Int), k ≤ 5 ∧ iv = .int .i64 ((5 - k : Nat) : Int) ∧ InS S zs ∧ SBx w wr p [.int .i64 (W : Int), .slice a1 1 c1, .slice a2 2 c2, .int .i64 2, .slice a3 n3 c3, .slice a4 n4 c4] va k vc zs none 0 0 [] []) (fun iv _ => (intOf iv).toNat)
  case atStart => exact ⟨0, 0, none, [], by omega, rfl, fun z hz => by simp at hz, BX⟩
  case round =>
    clear BX
    obtain ⟨k, vc, va, zs, hk, rfl, hin, BX⟩ := hrel
    obtain ⟨j, HJ⟩ : ∃ j : Nat, Hid (5 - k = j) := ⟨_, rfl⟩
    rw [HJ.out]
    by_cases hj : 0 < j
    · have hk5 : k < 5 := by have := HJ.out; omega
      have hj5 : j ≤ 5 := by have := HJ.out; omega
      have t0 := BX.out.cell (j := 0) rfl
      have t1 := BX.out.cell (j := 1) rfl
      have ff := BX.out.frozen 0
      have hd : Below wr.heap.size wr wr.drew := ⟨rfl, rfl, rfl, Nat.le_refl _, fun _ _ => rfl⟩
      have HG0 := Lib.hid (BX.below hd)
      have hbs := BX.base
      go_wp2_with fail
      go_region_law (first
        | (refine step_pushI _ (by rfl) _ _ (by rfl) (w.heap.size + 3) _ _ _ zs (by rfl) (by exact G1.vars.alloc _) w5.heap.size z (by rfl) (by simp) ⟨by omega, by omega⟩ (by omega) (by simp; omega) ?_; intro a6 c6 w6 ho6 hg6; have G2 := (G1.alloc (.cells #[.int .i64 z] 2)).var ho6 hg6.1; have o6 := (G1.alloc (.cells #[.int .i64 z] 2)).out.far hg6.1 (fun g e => by have := ((G1.alloc (.cells #[.int .i64 z] 2)).vars.block g e).1; omega); have x0 := o6.cell (j := 0) rfl; have xf := o6.frozen 0)
        | (go_simp; refine (diceBelow_any p _ (S : Int) HG0.out.gen (by omega) (by omega)).mono ?_; rintro e w5 ⟨z, hz0, hz1, rfl, D5, g5⟩; have G1 := HG0.out.step D5 g5; have u0 := G1.out.cell (j := 0) rfl; have u1 := G1.out.cell (j := 1) rfl; have uf := G1.out.frozen 0; have G1a := G1.alloc (.cells #[.int .i64 z] 2); have v0 := G1a.out.cell (j := 0) rfl; have v1 := G1a.out.cell (j := 1) rfl; have hb5 := G1.base; dsimp only))
      all_goals
        have G3 := Lib.hid G2
        have HIN := Lib.hid (hin.snoc hz0 hz1)
        clear G1 G1a G2 o6 x0 xf u0 u1 uf v0 v1 ho6 hg6 HG0 t0 t1 ff BX hin
        go_wp2
        go_roundw
        case rel => exact ⟨k + 1, c6, a6, zs ++ [z], by omega, by have := HJ.out; congr 1; omega, HIN.out, G3.out⟩
        case measure => simp [intOf]; omega
    · obtain rfl : j = 0 := by omega
      obtain rfl : k = 5 := by have := HJ.out; omega
      have HZS := Lib.hid hin
      clear hj HJ hin
      go_wp2
      go_loopw [8] (fun iv wt => ∃ (i cn cc : Nat) (ca : Option Addr) (rs : List Sl) (css : List (List Int)), i ≤ n3 ∧ iv = .int .i64 (i : Int) ∧ css.length = i ∧ (i = 0 → ca = none ∧ cn = 0 ∧ cc = 0 ∧ rs = [] ∧ css = []) ∧ (∀ t, t < i → InS S (intsAt css t) ∧ ((intsAt css t).length : Int) = P.arrays.getD t 0) ∧ SBx w wt p [.int .i64 (W : Int), .slice a1 1 c1, .slice a2 2 c2, .int .i64 2, .slice a3 n3 c3, .slice a4 n4 c4] va 5 vc zs ca cn cc rs css) (fun iv _ => n3 - (intOf iv).toNat)
      case atStart => exact ⟨0, 0, 0, none, [], [], by omega, rfl, rfl, fun _ => ⟨rfl, rfl, rfl, rfl, rfl⟩, fun t ht => absurd ht (by omega), BX⟩
      case round =>
        clear BX
        obtain ⟨i, cn, cc, ca, rs, css, hi, rfl, hcl, hz0, hall, BX⟩ := hrel
        have t4 := BX.arg.cell (j := 4) rfl
        by_cases hin : i < n3
        · obtain rfl : i = 0 := by omega
          obtain rfl : n3 = 1 := by omega
          obtain ⟨rfl, rfl, rfl, rfl, rfl⟩ := hz0 rfl
          obtain ⟨ba, oa, sz, rfl, hba, hsz, hsi, hsc⟩ := HA.out.at_ (k := 0) (by omega)
          have hsr : 1 ≤ sz ∧ sz ≤ 3 := HSZ.out sz (by rw [hsz.out]; exact getD_mem (by rw [HLA.out]; omega))
          obtain ⟨sz, rfl⟩ := Int.eq_ofNat_of_zero_le (show 0 ≤ sz by omega)
          have hbn : ba ≠ p := HPN.out ba oa rfl
          have hsc2 := (BX.grown.block ba hba (fun e => by injection e with e; exact hbn e))
          have hsc3 : wr.cell? ⟨ba, oa, none⟩ = some (.int .i64 (sz : Int)) := by
            have : wr.cell? ⟨ba, oa + 0, none⟩ = w.cell? ⟨ba, oa + 0, none⟩ := by simp [World.cell?, hsc2]
            rw [Nat.add_zero] at this hsc
            rw [this, hsc]
          have hlt1 : ba < wr.heap.size := Nat.lt_of_lt_of_le hba BX.grown.size
          have BX1 := BX.alloc (.cells #[] 2)
          have hl0 : Own (wr.alloc (.cells #[] 2)) wr.heap.size (some ⟨wr.heap.size, 0, none⟩) 0 0 [] := own_empty wr _ (Nat.le_refl _)
          obtain ⟨N, HNN⟩ : ∃ N, Hid (wr.heap.size = N) := ⟨_, rfl⟩
          have hvn : ∀ g, (Value.slice va 5 vc).ownBlock = some g → g < wr.heap.size := fun g e => (BX.vars.block g e).2
          have HVN := Lib.hid hvn
          have hN := BX.base
          rw [HNN.out] at HVN hN
          have hsc4 : (wr.alloc (.cells #[] 2)).cell? ⟨ba, oa, none⟩ = some (.int .i64 (sz : Int)) := (World.cell?_alloc_lt wr _ _ hlt1).trans hsc3
          have t5 := BX1.arg.cell (j := 4) rfl
          have hold := BX.old
          have HHS := Lib.hid hsz
          clear BX hsc hsc2 hsc3 hvn hsi hz0 hall hcl
          go_wp2
          clear t4 t5 hsc4
          go_loopw [9, 10] (fun lv nv wt => ∃ (ln lc : Nat) (la : Option Addr) (ls : List Int), ln ≤ sz ∧ nv = .int .i64 ((sz - ln : Nat) : Int) ∧ lv = .slice la ln lc ∧ InS S ls ∧ Own wt N la ln lc ls ∧ N ≤ wt.heap.size ∧ SBx w wt p [.int .i64 (W : Int), .slice a1 1 c1, .slice a2 2 c2, .int .i64 2, .slice (some ⟨ba, oa, none⟩) 1 c3, .slice a4 n4 c4] va 5 vc zs none 0 0 [] []) (fun _ nv _ => (intOf nv).toNat)
          case atStart => exact ⟨0, 0, some ⟨wr.heap.size, 0, none⟩, [], by omega, rfl, rfl, fun z hz => by simp at hz, by rw [← HNN.out]; exact hl0, by rw [← HNN.out]; simp, BX1⟩
          case round =>
            clear BX1 hl0
            obtain ⟨ln, lc, la, ls, hln, rfl, rfl, hls, hlo, hwt, BX⟩ := hrel
            obtain ⟨j, HJ⟩ : ∃ j : Nat, Hid (sz - ln = j) := ⟨_, rfl⟩
            rw [HJ.out]
            by_cases hj : 0 < j
            · have hlk : ln < sz := by have := HJ.out; omega
              have hj5 : j ≤ 5 := by have := HJ.out; omega
              go_wp2_with fail
              refine (diceBelow_any p _ (S : Int) BX.gen (by omega) (by omega)).mono ?_
              rintro e w5 ⟨z, hz0, hz1, rfl, D5, g5⟩
              have G1 := BX.step D5 g5
              have hl1 := hlo.other g5 (fun g e => by injection e with e; omega)
              have hs5 : N ≤ w5.heap.size := Nat.le_trans hwt g5.size
              clear BX hlo D5 g5
              go_wp2_with (at_builtin; refine wpList_push _ rfl _ _ rfl N _ _ _ ls rfl (hl1.alloc _) w5.heap.size z rfl (by simp) ⟨by omega, by omega⟩ (by omega) (by simp; omega) ?_)
              intro a8 c8 w8 hown8 hg8
              have G2 := Lib.hid ((G1.alloc (.cells #[.int .i64 z] 2)).newer (hl1.alloc _) hN HVN.out hg8)
              have HL2 := Lib.hid (hls.snoc hz0 hz1)
              have hg8s : w5.heap.size ≤ w8.heap.size := Nat.le_trans (by simp) hg8.size
              clear G1 hl1 hg8
              go_wp2
              go_roundw
              case rel =>
                repeat apply Exists.intro
                exact ⟨⟨ln + 1, c8, a8, ls ++ [z], by omega, by have := HJ.out; congr 1; omega, rfl, HL2.out, hown8, by have := hg8s; omega, G2.out⟩, rfl⟩
              case measure => simp [intOf]; omega
            · obtain rfl : j = 0 := by omega
              obtain rfl : ln = sz := by have := HJ.out; omega
              have t1 := BX.out.cell (j := 1) rfl
              have GA := BX.alloc (.cells #[.slice la ln lc] 25)
              have hla := hlo.alloc (.cells #[.slice la ln lc] 25)
              have hbs := GA.base
              go_wp2_with (at_builtin; refine wpList_pushG _ rfl _ _ 51 25 (.slice none 0 0) 1 24 rfl Try.underlying51 info_ints rfl (by omega) (w.heap.size + 3) _ _ _ [] rfl (World.ownsRow_nil _ _ _ _) ⟨_, 0, none⟩ 1 1 [.slice la ln lc] rfl rfl (World.news_of_block (cs := #[.slice la ln lc]) (t := 25) (fr := (0, 0)) (heap_alloc_new _ _)) (by simp [Value.oneCell']) (by unfold maxLen; omega) (by omega) hbs ?_)
              intro a9 c9 w9 ho9 hg9
              have hb9 : Below (_ : World).heap.size _ w9 := (Below.refl _ _).grown hg9.1 (Nat.le_refl _) (fun k hk => by simp [Value.ownBlock] at hk)
              have hN2 := hN
              have HC := Lib.hid (GA.cell hla hN2 hb9 ho9)
              have oB := GA.out.below hb9 GA.out.lt
              have x1 := oB.cell (j := 1) rfl
              have xf := oB.frozen 1
              have HLS : Hid (((ls.length : Nat) : Int) = P.arrays.getD 0 0) := Lib.hid (by rw [hlo.len, ← HHS.out])
              clear GA hla hg9 ho9 hb9 oB BX hlo t1
              go_wp2
              go_roundw
              case rel =>
                repeat apply Exists.intro
                exact ⟨⟨1, 1, c9, a9, [(la, ln, lc)], [ls], by omega, by go_num, rfl, fun h => absurd h (by omega), fun t ht => by
                  obtain rfl : t = 0 := by omega
                  exact ⟨hls, HLS.out⟩, HC.out⟩, rfl⟩
              case measure => simp [intOf]
        · obtain rfl : i = n3 := by omega
          have hEV := HENV.out ⟨zs, css⟩ HZS.out (BX.vars.len) hcl hall
          have e0 := BX.out.cell (j := 0) rfl
          have e1 := BX.out.cell (j := 1) rfl
          have r0 := BX.res.cell (j := 0) rfl
          have r1 := BX.res.cell (j := 1) rfl
          have z0 := BX.res.frozen 0
          have z1 := BX.res.frozen 1
          have hs0 := grown_set wr (w.heap.size + 1) 0 (.slice va 5 vc)
          have hs1 := grown_set (wr.setCell ⟨w.heap.size + 1, 0, none⟩ (.slice va 5 vc)) (w.heap.size + 1) 1 (.slice ca cn cc)
          have hg := only_trans hs0 hs1
          have hold := BX.old
          have HF : Hid (DrewE w p P (.returned (.agg #[.slice va 5 vc, .slice ca cn cc])) ((wr.setCell ⟨w.heap.size + 1, 0, none⟩ (.slice va 5 vc)).setCell ⟨w.heap.size + 1, 1, none⟩ (.slice ca cn cc))) := Lib.hid ⟨⟨(va, 5, vc), (ca, cn, cc), rs⟩, ⟨zs, css⟩, rfl, (fun w'' hg2 => ⟨((BX.vars.other hg (fun g e => by injection e with e; omega)).other hg2 (fun g e => by injection e with e; omega)).ints, ((BX.cells.other hg (fun g e => by injection e with e; omega)).other hg2 (fun g e => by injection e with e; omega)).reads⟩), hEV, BX.gen.other hg (fun g e => by injection e with e; omega), only_more BX.grown hg (fun g e => by injection e with e; omega)⟩
          clear BX hEV hs0 hs1 hg hall hz0
          go_wp2
          refine bodyPost_ret (v := .agg #[.slice va 5 vc, .slice ca cn cc]) (by simp [results, Try.results27, go_sem, r0, r1]) rfl ?_
          exact HF.out
end Go.Proofs.Ytmooecbdpfhnlaa
/- Plain mathematics of values: an expression put together of others has the value that its Op makes of theirs; sums, turns, crosses, rests. No Go text here. -/
namespace Go.Proofs.Ytmooecbdpfhnlaa
open Go.RowKit

section
variable {S : Nat} {V : List Int} {C : List (List Int)}
/-- The stack and the first trap, Term by Term. -/
def stepF (S : Nat) (V : List Int) (C : List (List Int)) (a : List Nat × Int) (t : Tm) : List Nat × Int := (stepV S V C a.1 t, if a.2 = 0 then (valT S V C t (innS a.1 t)).2 else a.2)
def foldF (S : Nat) (V : List Int) (C : List (List Int)) (a : List Nat × Int) (ts : List Tm) : List Nat × Int := ts.foldl (stepF S V C) a
theorem foldF_append (a : List Nat × Int) (ts us : List Tm) : foldF S V C a (ts ++ us) = foldF S V C (foldF S V C a ts) us := by simp [foldF]
theorem fold_is (ts : List Tm) : ∀ k, k ≤ ts.length → foldF S V C ([], 0) (ts.take k) = (stkV S V C (ts.take k), trapV S V C ts k) := by
  intro k
  induction k with
  | zero => intro _; simp [foldF, stkV, trapV]
  | succ k ih =>
    intro hk
    rw [tm_snoc ts k (by omega), foldF_append, ih (by omega), stkV_snoc]
    simp only [foldF, List.foldl_cons, List.foldl_nil, stepF, trapV, badV]
/-- It has that value, without a trap, on whatever stack. -/
def Ev (S : Nat) (V : List Int) (C : List (List Int)) (ts : List Tm) (x : Nat) : Prop := ∀ st tr, foldF S V C (st, tr) ts = (st ++ [x], tr)
theorem ev_value {ts : List Tm} {x : Nat} (h : Ev S V C ts x) : (stkV S V C ts).getD 0 0 = x ∧ trapV S V C ts ts.length = 0 := by
  have e := fold_is (S := S) (V := V) (C := C) ts ts.length (Nat.le_refl _)
  rw [List.take_of_length_le (Nat.le_refl _), h] at e
  injection e with e1 e2
  exact ⟨by rw [← e1]; rfl, e2.symm⟩
end
end Go.Proofs.Ytmooecbdpfhnlaa
/- A drawn expression in its drawn program: it may stand there, and has a value where no Term traps. -/
namespace Go.Proofs.Ytmooecbdpfhnlaa
open Go.RowKit

theorem two_lit {op : Int} (h0 : 0 ≤ op) (h1 : op ≤ 17) {b1 n1 c1 b2 n2 c2 : Nat} (n3 : Nat) (hn : n1 + n2 + 1 = n3) (hs : n1 + n2 < 1048576) (ts us : List Tm) (w : World) (ht : Terms w (some ⟨b1, 0, none⟩) n1 ts) (hu : Terms w (some ⟨b2, 0, none⟩) n2 us) :
    Calls Try.prog 29 #[.int .i64 op, .slice (some ⟨b1, 0, none⟩) n1 c1, .slice (some ⟨b2, 0, none⟩) n2 c2] w fun e w' => ∃ g c, e = .returned (.slice (some ⟨g, 0, none⟩) n3 c) ∧ Terms w' (some ⟨g, 0, none⟩) n3 (ts ++ us ++ [(op, 0)]) ∧ Below w.heap.size w w' := by
  refine (two_any op b1 0 n1 c1 b2 0 n2 c2 ts us w ht hu (inTm_small (by omega) (by omega) (by omega) (by omega)) hs).mono ?_
  rintro e w' ⟨a, c, rfl, ho, hb⟩
  obtain ⟨g, rfl, _, _⟩ := ownT_some ho (by omega)
  rw [hn] at ho
  exact ⟨g, c, by rw [hn], ho.terms, hb⟩
theorem formula_names {S V A : Nat} {ts : List Tm} (h : Formula V A ts) (hS : 4 ≤ S) (hl : ts.length ≤ 3000) : namesB S V A ts = true := by
  simp only [namesB, Bool.and_eq_true, List.all_eq_true]
  refine ⟨(expB_iff ts).2 ⟨hl, h.1⟩, fun t ht => ?_⟩
  obtain ⟨h0, h1, h2, h3, h4, h5, h6⟩ := h.2 t ht
  unfold nameOk
  by_cases e0 : t.1 = 0
  · rw [if_pos e0]; have := h4 e0; simp; omega
  by_cases e1 : t.1 = 1
  · rw [if_neg e0, if_pos e1]; have := h5 e1; simp; omega
  by_cases e2 : t.1 = 2
  · rw [if_neg e0, if_neg e1, if_pos e2]; have := h6 e2; simp; omega
  rw [if_neg e0, if_neg e1, if_neg e2]
theorem reck_formula {P : Prg} {v : Envr} {l s b s' b' : Int} {A : Nat} {ts : List Tm} (hE : envB P v = true) (hD : Drawn P l s b s' b' A) (hf : Formula 5 A ts) (hl : ts.length ≤ 3000) : reckB P v ts = true := by
  rw [reckB, hE, Bool.true_and, hD.lows, hD.secrets, hD.temps, hD.arrays]
  refine formula_names hf ?_ hl
  have : P.width.toNat = 2 ∨ P.width.toNat = 3 := by have := hD.width; omega
  rcases this with h | h <;> rw [h] <;> decide
theorem value_ev {P : Prg} {v : Envr} {l s b s' b' : Int} {A : Nat} {ts : List Tm} {x : Nat} (hE : envB P v = true) (hD : Drawn P l s b s' b' A) (hf : Formula 5 A ts) (hl : ts.length ≤ 3000) (h : Ev (2 ^ P.width.toNat) v.vars v.cells ts x) : valueB P v ts = x ∧ trapB P v ts = 0 := by
  have hR := reck_formula hE hD hf hl
  obtain ⟨e1, e2⟩ := ev_value h
  have ht : trapB P v ts = 0 := by rw [trapB, if_pos hR]; exact e2
  exact ⟨by rw [valueB, if_pos ht, plainB, if_pos hR]; exact e1, ht⟩
end Go.Proofs.Ytmooecbdpfhnlaa
/- What the law FnTraps leans on: where no Term may trap, none does, whatever the environment. -/
namespace Go.Proofs.Ytmooecbdpfhnlaa
open Go.RowKit

section
variable {S : Nat} {V : List Int} {C : List (List Int)} {sz : List Int}
/-- The values of some trees, without a trap, on whatever stack; a number is its own. -/
def Vals (S : Nat) (V : List Int) (C : List (List Int)) (ks : List Tr) (xs : List Nat) : Prop :=
  xs.length = ks.length ∧ (∀ st tr, foldF S V C (st, tr) (Tr.flats ks) = (st ++ xs, tr)) ∧ ∀ i n k2, i < ks.length → ks.getD i default = .node 0 n k2 → xs.getD i 0 = n.toNat
theorem numB_num {lo hi : Int} {T : Tr} (h : numB lo hi T = true) : ∃ n k2, T = .node 0 n k2 ∧ lo ≤ n ∧ n ≤ hi := by
  cases T with
  | node op n k2 =>
    simp only [numB, Bool.and_eq_true, decide_eq_true_eq] at h
    obtain ⟨h1, h2, h3⟩ := h
    subst h1
    exact ⟨n, k2, rfl, h2, h3⟩
theorem step_quiet (hC : ∀ i, sz.getD i 0 = ((C.getD i []).length : Int)) (op n : Int) (kids : List Tr) (xs : List Nat) (hok : (Tr.node op n kids).okT) (h : Vals S V C kids xs) (hh : headT sz op n kids = false) :
    ∀ st tr, foldF S V C (st, tr) (Tr.node op n kids).flat = (st ++ [(valT S V C (op, n) xs).1], tr) := by
  intro st tr
  obtain ⟨h1, h2, h3⟩ := h
  simp only [Tr.okT] at hok
  have hk : (takesI op).toNat = xs.length := by have := hok.2.1; omega
  have ht : (valT S V C (op, n) xs).2 = 0 := by
    simp only [headT, Bool.or_eq_false_iff, Bool.and_eq_false_iff, Bool.not_eq_false', decide_eq_false_iff_not, Bool.or_eq_false_iff] at hh
    unfold valT
    simp only []
    by_cases e0 : op = 0
    · rw [if_pos e0]
    by_cases e1 : op = 1
    · rw [if_neg e0, if_pos e1]
    by_cases e2 : op = 2
    · rw [if_neg e0, if_neg e1, if_pos e2]
      rcases hh.1 with hn | hn
      · exact absurd e2 hn
      · obtain ⟨m, k2, he, hm0, hm1⟩ := numB_num hn
        have hkl : kids.length = 1 := by
          have h5 := hok.2.1
          rw [e2] at h5
          have h4 : takesI 2 = 1 := rfl
          omega
        have hx := h3 0 m k2 (by omega) he
        have hs := hC n.toNat
        have hlt : xs.getD 0 0 < (C.getD n.toNat []).length := by omega
        rw [if_pos hlt]
    by_cases e17 : op = 17
    · rw [if_neg e0, if_neg e1, if_neg e2, if_pos e17]
    by_cases e34 : op = 3 ∨ op = 4
    · rw [if_neg e0, if_neg e1, if_neg e2, if_neg e17, if_pos e34]
    rw [if_neg e0, if_neg e1, if_neg e2, if_neg e17, if_neg e34]
    simp only []
    rw [if_neg ?_]
    rintro ⟨hz, h89⟩
    rcases hh.2 with hn | hn
    · exact absurd h89 (by rintro (h | h) <;> simp [h] at hn)
    · obtain ⟨m, k2, he, hm0, hm1⟩ := numB_num hn
      have hkl : kids.length = 2 := by
        have h5 := hok.2.1
        have h4 : takesI op = 2 := by rcases h89 with h | h <;> rw [h] <;> rfl
        omega
      have hx := h3 1 m k2 (by omega) he
      omega
  have hin : innS (st ++ xs) (op, n) = xs := by simp [innS, hk]
  simp only [Tr.flat]
  rw [foldF_append, h2]
  show stepF S V C (st ++ xs, tr) (op, n) = _
  simp only [stepF, stepV, hin, ht, hk, List.length_append, Nat.add_sub_cancel, List.take_left']
  congr 1
  split <;> simp_all
mutual
theorem quiet_tree (hC : ∀ i, sz.getD i 0 = ((C.getD i []).length : Int)) : ∀ T : Tr, T.okT → T.trap sz = false → ∃ x, Ev S V C T.flat x ∧ ∀ n k2, T = .node 0 n k2 → x = n.toNat
  | .node op n kids, hok, ht => by
    have hok' := hok
    simp only [Tr.okT] at hok'
    simp only [Tr.trap, Bool.or_eq_false_iff] at ht
    obtain ⟨xs, hx⟩ := quiet_trees hC kids hok'.2.2 ht.2
    refine ⟨_, step_quiet hC op n kids xs hok hx ht.1, fun m k2 e => ?_⟩
    injection e with e1 e2 e3
    subst e1 e2
    simp [valT]
theorem quiet_trees (hC : ∀ i, sz.getD i 0 = ((C.getD i []).length : Int)) : ∀ ks : List Tr, Tr.oks ks → Tr.traps sz ks = false → ∃ xs, Vals S V C ks xs
  | [], _, _ => ⟨[], rfl, fun st tr => by simp [Tr.flats, foldF], fun i n k2 h => absurd h (by simp)⟩
  | t :: r, hok, ht => by
    simp only [Tr.oks] at hok
    simp only [Tr.traps, Bool.or_eq_false_iff] at ht
    obtain ⟨x, h1, h2⟩ := quiet_tree hC t hok.1 ht.1
    obtain ⟨xs, h3, h4, h5⟩ := quiet_trees hC r hok.2 ht.2
    refine ⟨x :: xs, by simp [h3], fun st tr => by simp only [Tr.flats]; rw [foldF_append, h1, h4]; simp, fun i n k2 hi e => ?_⟩
    cases i with
    | zero => exact h2 n k2 e
    | succ i => exact h5 i n k2 (by simpa using hi) e
end
end
/-- A drawn expression stands in its program. -/
theorem stand_formula {P : Prg} {l s b s' b' : Int} {A : Nat} {ts : List Tm} (hD : Drawn P l s b s' b' A) (hf : Formula 5 A ts) (hl : ts.length ≤ 40) : standQ P ts = true := by
  have hn : namesB (2 ^ P.width.toNat) (P.lows.length + P.secrets.length + P.temps.toNat) P.arrays.length ts = true := by
    rw [hD.lows, hD.secrets, hD.temps, hD.arrays]
    refine formula_names hf ?_ (by omega)
    have : P.width.toNat = 2 ∨ P.width.toNat = 3 := by have := hD.width; omega
    rcases this with h | h <;> rw [h] <;> decide
  simp only [standQ, bodyB, Bool.and_eq_true, List.all_eq_true, decide_eq_true_eq, bne_iff_ne]
  exact ⟨fun t ht => by have := (hf.2 t ht).2.1; omega, hl, hn⟩
theorem trap_zero {P : Prg} {l s b s' b' : Int} {A : Nat} (hD : Drawn P l s b s' b' A) (hz : codeB P = 0) : trapQ P ([(1, 0)] ++ [(0, 0)] ++ [(8, 0)]) = true := by
  have hs := stand_formula hD (ts := [(1, 0)] ++ [(0, 0)] ++ [(8, 0)]) (form_two (form_var 5 A (by omega) (by omega) (by omega)) (form_num 5 A (by omega) (by omega)) (by omega) (by omega)) (by simp)
  have e : stackOf ([(1, 0)] ++ [(0, 0)] ++ [(8, 0)]) = [.node 8 0 [.node 1 0 [], .node 0 0 []]] := rfl
  rw [trapQ, hs, e, hz]
  simp [Tr.traps, Tr.trap, headT, numB]
theorem trap_rest {P : Prg} : trapQ P ([(1, 0)] ++ [(0, 2)] ++ [(9, 0)]) = false := by
  have e : stackOf ([(1, 0)] ++ [(0, 2)] ++ [(9, 0)]) = [.node 9 0 [.node 1 0 [], .node 0 2 []]] := rfl
  rw [trapQ, e]
  simp [Tr.traps, Tr.trap, headT, numB]
theorem trap_sound {P : Prg} {v : Envr} {l s b s' b' : Int} {A : Nat} {ts : List Tm} (hE : envB P v = true) (hD : Drawn P l s b s' b' A) (hf : Formula 5 A ts) (hl : ts.length ≤ 40) (hq : trapQ P ts = false) : trapB P v ts = 0 := by
  have hs := stand_formula hD hf hl
  obtain ⟨hz, _, h3, _, h5⟩ := envB_ok hE
  obtain ⟨T, t1, t2, t3, _⟩ := standQ_tree hs
  rw [trapQ, hs, t1, hz] at hq
  simp only [beq_self_eq_true, Bool.true_and, Tr.traps, Bool.or_false] at hq
  have hC : ∀ i, P.arrays.getD i 0 = ((v.cells.getD i []).length : Int) := fun i => by
    rcases Nat.lt_or_ge i v.cells.length with h | h
    · rw [← h5 i h]; rfl
    · rw [List.getD_eq_getElem?_getD, List.getD_eq_getElem?_getD, List.getElem?_eq_none (by omega), List.getElem?_eq_none h]; rfl
  obtain ⟨x, h1, _⟩ := quiet_tree (S := 2 ^ P.width.toNat) (V := v.vars) (C := v.cells) hC T t3 hq
  rw [← t2] at h1
  exact (value_ev hE hD hf (by omega) h1).2
end Go.Proofs.Ytmooecbdpfhnlaa
