/- Joined texts of this proof (Surround, FoldMath, ImplSmall), in build order. -/
import Derived.Test.YtmppiefkeeanpaaJ10
import Derived.Test.YtmppiefkeeanpaaJ15
import Derived.Test.YtmppiefkeeanpaaJ16
import Derived.Deep.RegionLaw
import Derived.Test.YtmppiefkeeanpaaJ2
import Derived.Test.YtmppiefkeeanpaaJ8
/- The contract of the laws' own draw of an environment: surroundings. -/
namespace Go.Proofs.Ytmppiefkeeanpaa
open Go.RowKit

theorem OwnIS.other {w w' : World} {B : Nat} {a : Option Addr} {n c : Nat} {rs : List Sl} {css : List (List Int)} {row : Option Nat} (h : OwnIS w B a n c rs css) (hg : w.grownBy w' row) (hr : ∀ g, row = some g → g < B) : OwnIS w' B a n c rs css := by
  refine ⟨h.1.kept hg ?_, h.2.1, h.2.2.1, fun i hi => (h.2.2.2 i hi).other hg hr⟩
  cases hv : (Value.slice a n c).ownBlock with
  | none => exact .inl rfl
  | some g =>
    refine .inr fun e => ?_
    have := hr g e.symm
    have := (h.1.lt g hv).1
    omega
theorem ownIS_nil (w : World) (B : Nat) : OwnIS w B none 0 0 [] [] := ⟨World.ownsRow_nil _ _ _ _, by omega, rfl, fun i hi => absurd hi (by omega)⟩
theorem step_pushI {ops : Array Oper} {o : Oper} {ac : Act} {K : Act → World → Prop} {Q : Exit → Act → World → Prop} {E : Prop} (w : World) (hgd : o.guard = none) (s x : Operand)
    (ho : o.op = .call { callee := .builtin .append, args := #[s, x], argTypes := #[28, 28] })
    (B : Nat) (a : Option Addr) (n c : Nat) (zs : List Int) (hs : ac.eval s = .slice a n c) (hown : Own w B a n c zs)
    (g : Nat) (z : Int) (hx : ac.eval x = .slice (some ⟨g, 0, none⟩) 1 1) (hc1 : w.cell? ⟨g, 0, none⟩ = some (.int .i64 z)) (hin : In64 z) (hn : n < 1048576) (hB : B ≤ w.heap.size)
    (h : ∀ a1 c1 w', Own w' B a1 (n + 1) c1 (zs ++ [z]) → GrowsTo w (.slice a n c) w' (.slice a1 (n + 1) c1) → K (ac.put o.dst (.slice a1 (n + 1) c1)) w') :
    if Region.wanted o (yielded ops ac.tmps) = true then Oper.wp Try.prog o ac w K Q else E := by
  refine step_pushG w hgd s x 28 2 (.int .i64 0) 1 8 ho Try.underlying28 info_i64 rfl (by omega) B a n c (zs.map (Value.int .i64)) hs hown.1 ⟨g, 0, none⟩ 1 1 [.int .i64 z] hx rfl ?_ ?_ (by omega) ?_ ?_ hB ?_
  · intro j u hj
    match j, hj with
    | 0, hj => simp at hj; subst hj; simpa [Addr.add] using hc1
  · intro u hu; simp at hu; subst hu; rfl
  · unfold maxLen; omega
  · omega
  · intro a1 c1 w' r1 r2
    refine h _ c1 w' ⟨by rw [List.map_append]; exact r1, by omega, fun t ht => ?_⟩ r2
    rcases List.mem_append.1 ht with ht | ht
    · exact hown.2.2 t ht
    · rw [List.mem_singleton] at ht; subst ht; exact hin

theorem plainB_lt {P : Prg} {v : Envr} {ts : List Tm} (hok : codeB P = 0) : plainB P v ts < 2 ^ P.width.toNat := by
  have h0 : 0 < 2 ^ P.width.toNat := Nat.pow_pos (by omega)
  unfold plainB
  by_cases hR : reckB P v ts = true
  · rw [if_pos hR]
    simp only [reckB, Bool.and_eq_true] at hR
    have hk := reck_of hR.1 hR.2
    have hW := (code_head hok).1
    have hst := stk_lt (W := P.width.toNat) (by omega) hk.env (ts := ts) (fun t hm h0 => by
      have := hk.named t hm
      unfold nameOk at this
      rw [if_pos h0] at this
      exact of_decide_eq_true this) ts.length (Nat.le_refl _)
    rw [List.take_of_length_le (Nat.le_refl _)] at hst
    exact getD_nat h0 hst 0
  · rw [if_neg hR]; exact h0
/-- An environment of that program was drawn. -/
def DrewE (w : World) (p : Nat) (P : Prg) (e : Ending) (w' : World) : Prop :=
  ∃ er v, e = .returned (envV er) ∧ (∀ w'', w'.grownBy w'' (some p) → EnvAt w'' er v) ∧ envB P v = true ∧ Dice w' p ∧ w.grownBy w' (some p)
/-- The draw under way. -/
structure SBx (w wi : World) (p : Nat) (pc : List Value) (va : Option Addr) (vn vc : Nat) (zs : List Int) (ca : Option Addr) (cn cc : Nat) (rs : List Sl) (css : List (List Int)) : Prop where
  arg : Blk wi w.heap.size 31 pc
  res : Blk wi (w.heap.size + 1) 35 [.slice none 0 0, .slice none 0 0]
  out : Blk wi (w.heap.size + 2) 35 [.slice va vn vc, .slice ca cn cc]
  vars : Own wi (w.heap.size + 3) va vn vc zs
  cells : OwnIS wi (w.heap.size + 3) ca cn cc rs css
  gen : Dice wi p
  grown : w.grownBy wi (some p)
  old : p < w.heap.size
section
variable {w wi wj : World} {p : Nat} {pc : List Value} {va ca : Option Addr} {vn vc cn cc : Nat} {zs : List Int} {rs : List Sl} {css : List (List Int)}
theorem SBx.step (h : SBx w wi p pc va vn vc zs ca cn cc rs css) (hd : Dice wj p) (hg : wi.grownBy wj (some p)) : SBx w wj p pc va vn vc zs ca cn cc rs css := by
  have q := h.old
  exact ⟨h.arg.gen hg (by omega), h.res.gen hg (by omega), h.out.gen hg (by omega), h.vars.other hg (fun g e => by injection e with e; omega), h.cells.other hg (fun g e => by injection e with e; omega), hd, only_trans h.grown hg, q⟩
theorem SBx.below (h : SBx w wi p pc va vn vc zs ca cn cc rs css) (hb : Below wi.heap.size wi wj) : SBx w wj p pc va vn vc zs ca cn cc rs css :=
  ⟨h.arg.below hb h.arg.lt, h.res.below hb h.res.lt, h.out.below hb h.out.lt, h.vars.below hb, h.cells.below hb, h.gen.below hb, only_more h.grown (only_below hb none) (fun g e => by cases e), h.old⟩
theorem SBx.alloc (h : SBx w wi p pc va vn vc zs ca cn cc rs css) (o : Obj) : SBx w (wi.alloc o) p pc va vn vc zs ca cn cc rs css := h.below ((Below.refl _ _).alloc (Nat.le_refl _) o)
theorem SBx.base (h : SBx w wi p pc va vn vc zs ca cn cc rs css) : w.heap.size + 3 ≤ wi.heap.size := h.out.lt
theorem Blk.far {b : Nat} {t : TypeId} {xs : List Value} {row : Option Nat} (h : Blk wi b t xs) (hg : wi.grownBy wj row) (hr : ∀ g, row = some g → b < g) : Blk wj b t xs := (hg.block b h.lt (fun e => by have := hr b e.symm; omega)).trans h
/-- One variable more. -/
theorem SBx.var {a1 : Option Addr} {c1 : Nat} {z : Int} (h : SBx w wi p pc va vn vc zs none 0 0 [] []) (ho : Own wj (w.heap.size + 3) a1 (vn + 1) c1 (zs ++ [z])) (hg : wi.grownBy wj (Value.slice va vn vc).ownBlock) : SBx w (wj.setCell ⟨w.heap.size + 2, 0, none⟩ (.slice a1 (vn + 1) c1)) p pc a1 (vn + 1) c1 (zs ++ [z]) none 0 0 [] [] := by
  have q := h.old
  have hr : ∀ g, (Value.slice va vn vc).ownBlock = some g → w.heap.size + 3 ≤ g := fun g e => (h.vars.block g e).1
  have hs := grown_set wj (w.heap.size + 2) 0 (.slice a1 (vn + 1) c1)
  have o1 := h.out.far hg (fun g e => by have := hr g e; omega)
  exact ⟨(h.arg.far hg (fun g e => by have := hr g e; omega)).gen hs (by omega), (h.res.far hg (fun g e => by have := hr g e; omega)).gen hs (by omega), o1.set (j := 0) _, ho.other hs (fun g e => by injection e with e; omega), ownIS_nil _ _, (h.gen.other hg (fun g e => by have := hr g e; omega)).other hs (fun g e => by injection e with e; omega), only_more (only_more h.grown hg (fun g e => by have := hr g e; omega)) hs (fun g e => by injection e with e; omega), q⟩
/-- A row of the call's own, newer than N, has grown. -/
theorem SBx.newer {la : Option Addr} {ln lc N : Nat} {ls : List Int} (h : SBx w wi p pc va vn vc zs none 0 0 [] []) (hl : Own wi N la ln lc ls) (hN : w.heap.size + 3 ≤ N) (hv : ∀ g, (Value.slice va vn vc).ownBlock = some g → g < N) (hg : wi.grownBy wj (Value.slice la ln lc).ownBlock) : SBx w wj p pc va vn vc zs none 0 0 [] [] := by
  have q := h.old
  have hr : ∀ g, (Value.slice la ln lc).ownBlock = some g → N ≤ g := fun g e => (hl.block g e).1
  exact ⟨h.arg.far hg (fun g e => by have := hr g e; omega), h.res.far hg (fun g e => by have := hr g e; omega), h.out.far hg (fun g e => by have := hr g e; omega), h.vars.apart hg hv hr, ownIS_nil _ _, h.gen.other hg (fun g e => by have := hr g e; omega), only_more h.grown hg (fun g e => by have := hr g e; omega), q⟩
/-- One list of cells. -/
theorem SBx.cell {wk : World} {la a1 : Option Addr} {ln lc c1 N : Nat} {ls : List Int} (h : SBx w wi p pc va vn vc zs none 0 0 [] []) (hl : Own wi N la ln lc ls) (hN : w.heap.size + 3 ≤ N) (hb : Below wi.heap.size wi wk) (ho : wk.ownsRow (w.heap.size + 3) 28 1 (.slice a1 1 c1) 1 [.slice la ln lc]) : SBx w (wk.setCell ⟨w.heap.size + 2, 1, none⟩ (.slice a1 1 c1)) p pc va vn vc zs a1 1 c1 [(la, ln, lc)] [ls] := by
  have h1 := h.below hb
  have q := h.old
  have hs := grown_set wk (w.heap.size + 2) 1 (.slice a1 1 c1)
  refine ⟨h1.arg.gen hs (by omega), h1.res.gen hs (by omega), h1.out.set (j := 1) _, h1.vars.other hs (fun g e => by injection e with e; omega), ?_, h1.gen.other hs (fun g e => by injection e with e; omega), only_more h1.grown hs (fun g e => by injection e with e; omega), q⟩
  refine OwnIS.other (w := wk) ⟨ho, by omega, rfl, fun i hi => ?_⟩ hs (fun g e => by injection e with e; omega)
  obtain rfl : i = 0 := by omega
  exact ((hl.below hb).base hN)
end
theorem sbx_new (w : World) (p : Nat) (pc : List Value) (hD : Dice w p) : SBx w (((w.alloc (.cells pc.toArray 31)).alloc (.cells #[.slice none 0 0, .slice none 0 0] 35)).alloc (.cells #[.slice none 0 0, .slice none 0 0] 35)) p pc none 0 0 [] none 0 0 [] [] :=
  ⟨((Blk.new w _ _).alloc _).alloc _, (by simpa using Blk.new (w.alloc _) 35 [.slice none 0 0, .slice none 0 0] : Blk _ _ _ _).alloc _, by simpa using Blk.new ((w.alloc _).alloc _) 35 [.slice none 0 0, .slice none 0 0], own_nil _ _, ownIS_nil _ _, ((hD.alloc _).alloc _).alloc _, only_alloc (only_alloc (only_alloc (World.grownBy.refl _ _) _) _) _, hD.lt⟩
def InS (S : Nat) (zs : List Int) : Prop := ∀ z ∈ zs, 0 ≤ z ∧ z < (S : Int)
theorem InS.snoc {S : Nat} {zs : List Int} {z : Int} (h : InS S zs) (h0 : 0 ≤ z) (h1 : z ≤ (S : Int) - 1) : InS S (zs ++ [z]) := by
  intro y hy
  rcases List.mem_append.1 hy with hy | hy
  · exact h y hy
  · rw [List.mem_singleton] at hy; subst hy; omega
theorem InS.vals {S : Nat} {zs : List Int} (h : InS S zs) {m : Int} (hl : (zs.length : Int) = m) : valB S m zs = true := by
  simp only [valB, valsB, Bool.and_eq_true, decide_eq_true_eq, List.all_eq_true]
  exact ⟨hl, fun z hz => h z hz⟩
set_option maxRecDepth 20000 in
set_option maxHeartbeats 6400000 in
theorem surroundings_any (r : PRow) (P : Prg) (l s b s' b' : Int) (A p : Nat) (w : World) (hP : ProgAt w r P) (hH : Head r A) (hok : codeB P = 0) (hDr : Drawn P l s b s' b' A) (hD : Dice w p) (hpn : ∀ ba oa, r.arrays.1 = some ⟨ba, oa, none⟩ → ba ≠ p) :
    Calls Try.prog 11 #[.pointer (some ⟨p, 0, none⟩), progV r] w (DrewE w p P) := by
  have hwd := hP.width
  have hw23 := hDr.width
  have harr := hP.arrays
  have hsz := hDr.sizes
  have hla := hDr.arrays
  have HENV : Hid (∀ (v : Envr), InS (2 ^ P.width.toNat) v.vars → v.vars.length = 5 → v.cells.length = A → (∀ i, i < A → InS (2 ^ P.width.toNat) (intsAt v.cells i) ∧ ((intsAt v.cells i).length : Int) = P.arrays.getD i 0) → envB P v = true) := Lib.hid (fun v h1 h2 h3 h4 => by
    simp only [envB, Bool.and_eq_true, beq_iff_eq, decide_eq_true_eq]
    refine ⟨⟨hok, h1.vals ?_⟩, by rw [h3, hla], ?_⟩
    · rw [h2, hDr.lows, hDr.secrets, hDr.temps]; rfl
    · simp only [cellsB, List.all_eq_true, List.mem_range]
      intro i hi
      rw [h3] at hi
      exact (h4 i hi).1.vals (h4 i hi).2)
  obtain ⟨wd, ⟨a1, n1, c1⟩, ⟨a2, n2, c2⟩, tp, ⟨a3, n3, c3⟩, ⟨a4, n4, c4⟩, rows⟩ := r
  obtain ⟨h1, h2, h3, h4, hA⟩ := hH
  simp only [] at h1 h2 h3 h4 hwd harr hpn
  have HPN := Lib.hid hpn
  clear hpn
  subst h1 h2 h3 h4
  have HA := Lib.hid harr
  have HSZ := Lib.hid hsz
  have HLA := Lib.hid hla
  obtain ⟨W, HWd⟩ : ∃ W : Nat, Hid (P.width.toNat = W) := ⟨_, Lib.hid rfl⟩
  obtain ⟨S, HS⟩ : ∃ S : Nat, Hid (2 ^ W = S) := ⟨_, Lib.hid rfl⟩
  rw [HWd.out, HS.out] at HENV
  have hW : wd = (W : Int) := by have := HWd.out; omega
  have hS2 : S = 4 ∨ S = 8 := by
    rw [← HS.out]
    have : W = 2 ∨ W = 3 := by omega
    rcases this with rfl | rfl
    · exact .inl rfl
    · exact .inr rfl
  have hsh : Op.shift .shl .i64 1 .i64 wd = pure (.int .i64 (S : Int)) := by
    have e : W = 2 ∨ W = 3 := by omega
    rw [hW, ← HS.out]
    rcases e with rfl | rfl <;> rfl
  subst hW
  clear harr hsz hla hDr hok hP hwd hw23 HWd HS
  show Calls Try.prog 11 #[.pointer (some ⟨p, 0, none⟩), .agg #[.int .i64 (W : Int), .slice a1 1 c1, .slice a2 2 c2, .int .i64 2, .slice a3 n3 c3, .slice a4 n4 c4]] w _
  obtain ⟨wa, HW⟩ : ∃ wa, Hid (wa = ((w.alloc (.cells #[.int .i64 (W : Int), .slice a1 1 c1, .slice a2 2 c2, .int .i64 2, .slice a3 n3 c3, .slice a4 n4 c4] 31)).alloc (.cells #[.slice none 0 0, .slice none 0 0] 35)).alloc (.cells #[.slice none 0 0, .slice none 0 0] 35)) := ⟨_, rfl⟩
  have BX : SBx w wa p [.int .i64 (W : Int), .slice a1 1 c1, .slice a2 2 c2, .int .i64 2, .slice a3 n3 c3, .slice a4 n4 c4] none 0 0 [] none 0 0 [] [] := by rw [HW.out]; exact sbx_new w p _ hD
  go_enter Try.func11, Try.ntmps11
  go_wp2_with fail
  rw [← HW.out]
  clear HW hD
  go_loopw [7] (fun iv wr => ∃ (k vc : Nat) (va : Option Addr) (zs : List Int), k ≤ 5 ∧ iv = .int .i64 ((5 - k : Nat) : Int) ∧ InS S zs ∧ SBx w wr p [.int .i64 (W : Int), .slice a1 1 c1, .slice a2 2 c2, .int .i64 2, .slice a3 n3 c3, .slice a4 n4 c4] va k vc zs none 0 0 [] []) (fun iv _ => (intOf iv).toNat)
  case atStart => exact ⟨0, 0, none, [], by omega, rfl, fun z hz => by simp at hz, BX⟩
  case round =>
    clear BX
    obtain ⟨k, vc, va, zs, hk, rfl, hin, BX⟩ := hrel
    obtain ⟨j, HJ⟩ : ∃ j : Nat, Hid (5 - k = j) := ⟨_, rfl⟩
    rw [HJ.out]
    by_cases hj : 0 < j
    · have hk5 : k < 5 := by have := HJ.out; omega
      have hj5 : j ≤ 5 := by have := HJ.out; omega
      have t0 := BX.out.cell (j := 0) rfl
      have t1 := BX.out.cell (j := 1) rfl
      have ff := BX.out.frozen 0
      have hd : Below wr.heap.size wr wr.drew := ⟨rfl, rfl, rfl, Nat.le_refl _, fun _ _ => rfl⟩
      have HG0 := Lib.hid (BX.below hd)
      have hbs := BX.base
      go_wp2_with fail
      go_region_law (first
        | (refine step_pushI _ (by rfl) _ _ (by rfl) (w.heap.size + 3) _ _ _ zs (by rfl) (by exact G1.vars.alloc _) w5.heap.size z (by rfl) (by simp) ⟨by omega, by omega⟩ (by omega) (by simp; omega) ?_; intro a6 c6 w6 ho6 hg6; have G2 := (G1.alloc (.cells #[.int .i64 z] 2)).var ho6 hg6.1; have o6 := (G1.alloc (.cells #[.int .i64 z] 2)).out.far hg6.1 (fun g e => by have := ((G1.alloc (.cells #[.int .i64 z] 2)).vars.block g e).1; omega); have x0 := o6.cell (j := 0) rfl; have xf := o6.frozen 0)
        | (go_simp; refine (diceBelow_any p _ (S : Int) HG0.out.gen (by omega) (by omega)).mono ?_; rintro e w5 ⟨z, hz0, hz1, rfl, D5, g5⟩; have G1 := HG0.out.step D5 g5; have u0 := G1.out.cell (j := 0) rfl; have u1 := G1.out.cell (j := 1) rfl; have uf := G1.out.frozen 0; have G1a := G1.alloc (.cells #[.int .i64 z] 2); have v0 := G1a.out.cell (j := 0) rfl; have v1 := G1a.out.cell (j := 1) rfl; have hb5 := G1.base; dsimp only))
      all_goals
        have G3 := Lib.hid G2
        have HIN := Lib.hid (hin.snoc hz0 hz1)
        clear G1 G1a G2 o6 x0 xf u0 u1 uf v0 v1 ho6 hg6 HG0 t0 t1 ff BX hin
        go_wp2
        go_roundw
        case rel => exact ⟨k + 1, c6, a6, zs ++ [z], by omega, by have := HJ.out; congr 1; omega, HIN.out, G3.out⟩
        case measure => simp [intOf]; omega
    · obtain rfl : j = 0 := by omega
      obtain rfl : k = 5 := by have := HJ.out; omega
      have HZS := Lib.hid hin
      clear hj HJ hin
      go_wp2
      go_loopw [8] (fun iv wt => ∃ (i cn cc : Nat) (ca : Option Addr) (rs : List Sl) (css : List (List Int)), i ≤ n3 ∧ iv = .int .i64 (i : Int) ∧ css.length = i ∧ (i = 0 → ca = none ∧ cn = 0 ∧ cc = 0 ∧ rs = [] ∧ css = []) ∧ (∀ t, t < i → InS S (intsAt css t) ∧ ((intsAt css t).length : Int) = P.arrays.getD t 0) ∧ SBx w wt p [.int .i64 (W : Int), .slice a1 1 c1, .slice a2 2 c2, .int .i64 2, .slice a3 n3 c3, .slice a4 n4 c4] va 5 vc zs ca cn cc rs css) (fun iv _ => n3 - (intOf iv).toNat)
      case atStart => exact ⟨0, 0, 0, none, [], [], by omega, rfl, rfl, fun _ => ⟨rfl, rfl, rfl, rfl, rfl⟩, fun t ht => absurd ht (by omega), BX⟩
      case round =>
        clear BX
        obtain ⟨i, cn, cc, ca, rs, css, hi, rfl, hcl, hz0, hall, BX⟩ := hrel
        have t4 := BX.arg.cell (j := 4) rfl
        by_cases hin : i < n3
        · obtain rfl : i = 0 := by omega
          obtain rfl : n3 = 1 := by omega
          obtain ⟨rfl, rfl, rfl, rfl, rfl⟩ := hz0 rfl
          obtain ⟨ba, oa, sz, rfl, hba, hsz, hsi, hsc⟩ := HA.out.at_ (k := 0) (by omega)
          have hsr : 1 ≤ sz ∧ sz ≤ 3 := HSZ.out sz (by rw [hsz.out]; exact getD_mem (by rw [HLA.out]; omega))
          obtain ⟨sz, rfl⟩ := Int.eq_ofNat_of_zero_le (show 0 ≤ sz by omega)
          have hbn : ba ≠ p := HPN.out ba oa rfl
          have hsc2 := (BX.grown.block ba hba (fun e => by injection e with e; exact hbn e))
          have hsc3 : wr.cell? ⟨ba, oa, none⟩ = some (.int .i64 (sz : Int)) := by
            have : wr.cell? ⟨ba, oa + 0, none⟩ = w.cell? ⟨ba, oa + 0, none⟩ := by simp [World.cell?, hsc2]
            rw [Nat.add_zero] at this hsc
            rw [this, hsc]
          have hlt1 : ba < wr.heap.size := Nat.lt_of_lt_of_le hba BX.grown.size
          have BX1 := BX.alloc (.cells #[] 2)
          have hl0 : Own (wr.alloc (.cells #[] 2)) wr.heap.size (some ⟨wr.heap.size, 0, none⟩) 0 0 [] := own_empty wr _ (Nat.le_refl _)
          obtain ⟨N, HNN⟩ : ∃ N, Hid (wr.heap.size = N) := ⟨_, rfl⟩
          have hvn : ∀ g, (Value.slice va 5 vc).ownBlock = some g → g < wr.heap.size := fun g e => (BX.vars.block g e).2
          have HVN := Lib.hid hvn
          have hN := BX.base
          rw [HNN.out] at HVN hN
          have hsc4 : (wr.alloc (.cells #[] 2)).cell? ⟨ba, oa, none⟩ = some (.int .i64 (sz : Int)) := (World.cell?_alloc_lt wr _ _ hlt1).trans hsc3
          have t5 := BX1.arg.cell (j := 4) rfl
          have hold := BX.old
          have HHS := Lib.hid hsz
          clear BX hsc hsc2 hsc3 hvn hsi hz0 hall hcl
          go_wp2
          clear t4 t5 hsc4
          go_loopw [9, 10] (fun lv nv wt => ∃ (ln lc : Nat) (la : Option Addr) (ls : List Int), ln ≤ sz ∧ nv = .int .i64 ((sz - ln : Nat) : Int) ∧ lv = .slice la ln lc ∧ InS S ls ∧ Own wt N la ln lc ls ∧ N ≤ wt.heap.size ∧ SBx w wt p [.int .i64 (W : Int), .slice a1 1 c1, .slice a2 2 c2, .int .i64 2, .slice (some ⟨ba, oa, none⟩) 1 c3, .slice a4 n4 c4] va 5 vc zs none 0 0 [] []) (fun _ nv _ => (intOf nv).toNat)
          case atStart => exact ⟨0, 0, some ⟨wr.heap.size, 0, none⟩, [], by omega, rfl, rfl, fun z hz => by simp at hz, by rw [← HNN.out]; exact hl0, by rw [← HNN.out]; simp, BX1⟩
          case round =>
            clear BX1 hl0
            obtain ⟨ln, lc, la, ls, hln, rfl, rfl, hls, hlo, hwt, BX⟩ := hrel
            obtain ⟨j, HJ⟩ : ∃ j : Nat, Hid (sz - ln = j) := ⟨_, rfl⟩
            rw [HJ.out]
            by_cases hj : 0 < j
            · have hlk : ln < sz := by have := HJ.out; omega
              have hj5 : j ≤ 5 := by have := HJ.out; omega
              go_wp2_with fail
              refine (diceBelow_any p _ (S : Int) BX.gen (by omega) (by omega)).mono ?_
              rintro e w5 ⟨z, hz0, hz1, rfl, D5, g5⟩
              have G1 := BX.step D5 g5
              have hl1 := hlo.other g5 (fun g e => by injection e with e; omega)
              have hs5 : N ≤ w5.heap.size := Nat.le_trans hwt g5.size
              clear BX hlo D5 g5
              go_wp2_with (at_builtin; refine wpList_push _ rfl _ _ rfl N _ _ _ ls rfl (hl1.alloc _) w5.heap.size z rfl (by simp) ⟨by omega, by omega⟩ (by omega) (by simp; omega) ?_)
              intro a8 c8 w8 hown8 hg8
              have G2 := Lib.hid ((G1.alloc (.cells #[.int .i64 z] 2)).newer (hl1.alloc _) hN HVN.out hg8)
              have HL2 := Lib.hid (hls.snoc hz0 hz1)
              have hg8s : w5.heap.size ≤ w8.heap.size := Nat.le_trans (by simp) hg8.size
              clear G1 hl1 hg8
              go_wp2
              go_roundw
              case rel =>
                repeat apply Exists.intro
                exact ⟨⟨ln + 1, c8, a8, ls ++ [z], by omega, by have := HJ.out; congr 1; omega, rfl, HL2.out, hown8, by have := hg8s; omega, G2.out⟩, rfl⟩
              case measure => simp [intOf]; omega
            · obtain rfl : j = 0 := by omega
              obtain rfl : ln = sz := by have := HJ.out; omega
              have t1 := BX.out.cell (j := 1) rfl
              have GA := BX.alloc (.cells #[.slice la ln lc] 28)
              have hla := hlo.alloc (.cells #[.slice la ln lc] 28)
              have hbs := GA.base
              go_wp2_with (at_builtin; refine wpList_pushG _ rfl _ _ 33 28 (.slice none 0 0) 1 24 rfl Try.underlying33 info_ints rfl (by omega) (w.heap.size + 3) _ _ _ [] rfl (World.ownsRow_nil _ _ _ _) ⟨_, 0, none⟩ 1 1 [.slice la ln lc] rfl rfl (World.news_of_block (cs := #[.slice la ln lc]) (t := 28) (fr := (0, 0)) (heap_alloc_new _ _)) (by simp [Value.oneCell']) (by unfold maxLen; omega) (by omega) hbs ?_)
              intro a9 c9 w9 ho9 hg9
              have hb9 : Below (_ : World).heap.size _ w9 := (Below.refl _ _).grown hg9.1 (Nat.le_refl _) (fun k hk => by simp [Value.ownBlock] at hk)
              have hN2 := hN
              have HC := Lib.hid (GA.cell hla hN2 hb9 ho9)
              have oB := GA.out.below hb9 GA.out.lt
              have x1 := oB.cell (j := 1) rfl
              have xf := oB.frozen 1
              have HLS : Hid (((ls.length : Nat) : Int) = P.arrays.getD 0 0) := Lib.hid (by rw [hlo.len, ← HHS.out])
              clear GA hla hg9 ho9 hb9 oB BX hlo t1
              go_wp2
              go_roundw
              case rel =>
                repeat apply Exists.intro
                exact ⟨⟨1, 1, c9, a9, [(la, ln, lc)], [ls], by omega, by go_num, rfl, fun h => absurd h (by omega), fun t ht => by
                  obtain rfl : t = 0 := by omega
                  exact ⟨hls, HLS.out⟩, HC.out⟩, rfl⟩
              case measure => simp [intOf]
        · obtain rfl : i = n3 := by omega
          have hEV := HENV.out ⟨zs, css⟩ HZS.out (BX.vars.len) hcl hall
          have e0 := BX.out.cell (j := 0) rfl
          have e1 := BX.out.cell (j := 1) rfl
          have r0 := BX.res.cell (j := 0) rfl
          have r1 := BX.res.cell (j := 1) rfl
          have z0 := BX.res.frozen 0
          have z1 := BX.res.frozen 1
          have hs0 := grown_set wr (w.heap.size + 1) 0 (.slice va 5 vc)
          have hs1 := grown_set (wr.setCell ⟨w.heap.size + 1, 0, none⟩ (.slice va 5 vc)) (w.heap.size + 1) 1 (.slice ca cn cc)
          have hg := only_trans hs0 hs1
          have hold := BX.old
          have HF : Hid (DrewE w p P (.returned (.agg #[.slice va 5 vc, .slice ca cn cc])) ((wr.setCell ⟨w.heap.size + 1, 0, none⟩ (.slice va 5 vc)).setCell ⟨w.heap.size + 1, 1, none⟩ (.slice ca cn cc))) := Lib.hid ⟨⟨(va, 5, vc), (ca, cn, cc), rs⟩, ⟨zs, css⟩, rfl, (fun w'' hg2 => ⟨((BX.vars.other hg (fun g e => by injection e with e; omega)).other hg2 (fun g e => by injection e with e; omega)).ints, ((BX.cells.other hg (fun g e => by injection e with e; omega)).other hg2 (fun g e => by injection e with e; omega)).reads⟩), hEV, BX.gen.other hg (fun g e => by injection e with e; omega), only_more BX.grown hg (fun g e => by injection e with e; omega)⟩
          clear BX hEV hs0 hs1 hg hall hz0
          go_wp2
          refine bodyPost_ret (v := .agg #[.slice va 5 vc, .slice ca cn cc]) (by simp [results, Try.results11, go_sem, r0, r1]) rfl ?_
          exact HF.out
end Go.Proofs.Ytmppiefkeeanpaa
/- Plain mathematics of values: an expression put together of others has the value that its Op makes of theirs; sums, turns, crosses, rests. No Go text here. -/
namespace Go.Proofs.Ytmppiefkeeanpaa
open Go.RowKit

section
variable {S : Nat} {V : List Int} {C : List (List Int)}
/-- The stack and the first trap, Term by Term. -/
def stepF (S : Nat) (V : List Int) (C : List (List Int)) (a : List Nat × Int) (t : Tm) : List Nat × Int := (stepV S V C a.1 t, if a.2 = 0 then (valT S V C t (innS a.1 t)).2 else a.2)
def foldF (S : Nat) (V : List Int) (C : List (List Int)) (a : List Nat × Int) (ts : List Tm) : List Nat × Int := ts.foldl (stepF S V C) a
theorem foldF_append (a : List Nat × Int) (ts us : List Tm) : foldF S V C a (ts ++ us) = foldF S V C (foldF S V C a ts) us := by simp [foldF]
theorem fold_is (ts : List Tm) : ∀ k, k ≤ ts.length → foldF S V C ([], 0) (ts.take k) = (stkV S V C (ts.take k), trapV S V C ts k) := by
  intro k
  induction k with
  | zero => intro _; simp [foldF, stkV, trapV]
  | succ k ih =>
    intro hk
    rw [tm_snoc ts k (by omega), foldF_append, ih (by omega), stkV_snoc]
    simp only [foldF, List.foldl_cons, List.foldl_nil, stepF, trapV, badV]
/-- It has that value, without a trap, on whatever stack. -/
def Ev (S : Nat) (V : List Int) (C : List (List Int)) (ts : List Tm) (x : Nat) : Prop := ∀ st tr, foldF S V C (st, tr) ts = (st ++ [x], tr)
theorem ev_value {ts : List Tm} {x : Nat} (h : Ev S V C ts x) : (stkV S V C ts).getD 0 0 = x ∧ trapV S V C ts ts.length = 0 := by
  have e := fold_is (S := S) (V := V) (C := C) ts ts.length (Nat.le_refl _)
  rw [List.take_of_length_le (Nat.le_refl _), h] at e
  injection e with e1 e2
  exact ⟨by rw [← e1]; rfl, e2.symm⟩
theorem ev_var (i : Nat) : Ev S V C [(1, (i : Int))] (V.getD i 0).toNat := by
  intro st tr
  simp [foldF, stepF, stepV, takesI, valT]
  intro h; exact h.symm
theorem ev_one {ts : List Tm} {x : Nat} (h : Ev S V C ts x) {op : Int} (ho : op = 3 ∨ op = 4) : Ev S V C (ts ++ [(op, 0)]) (opN S op x 0) := by
  intro st tr
  rw [foldF_append, h]
  have ht : takesI op = 1 := by rcases ho with rfl | rfl <;> rfl
  have e0 : ¬ op = 0 := by omega
  have e1 : ¬ op = 1 := by omega
  have e2 : ¬ op = 2 := by omega
  have e17 : ¬ op = 17 := by omega
  have hi : innS (st ++ [x]) (op, 0) = [x] := by unfold innS; simp [ht]
  have hv : valT S V C (op, 0) [x] = (opN S op x 0, 0) := by
    unfold valT
    simp only []
    rw [if_neg e0, if_neg e1, if_neg e2, if_neg e17, if_pos ho]
    rfl
  have hs : stepV S V C (st ++ [x]) (op, 0) = st ++ [opN S op x 0] := by unfold stepV; rw [hi, hv]; simp [ht]
  simp only [foldF, List.foldl_cons, List.foldl_nil, stepF, hs, hi, hv]
  congr 1
  split
  · rename_i h0; exact h0.symm
  · rfl
theorem two_step (st : List Nat) (x y : Nat) {op : Int} (h5 : 5 ≤ op) (h16 : op ≤ 16) : stepV S V C (st ++ [x] ++ [y]) (op, 0) = st ++ [opN S op x y] ∧ (valT S V C (op, 0) (innS (st ++ [x] ++ [y]) (op, 0))).2 = if y = 0 ∧ (op = 8 ∨ op = 9) then 1 else 0 := by
  have ht : takesI op = 2 := by unfold takesI; rw [if_neg (by omega), if_neg (by omega), if_neg (by omega), if_pos ⟨h5, h16⟩]
  have hi : innS (st ++ [x] ++ [y]) (op, 0) = [x, y] := by
    unfold innS
    simp only [ht, List.append_assoc, List.length_append, List.length_cons, List.length_nil]
    rw [show st.length + (0 + 1 + (0 + 1)) - (2 : Int).toNat = st.length by simp]
    simp
  have hv : valT S V C (op, 0) [x, y] = (opN S op x y, if y = 0 ∧ (op = 8 ∨ op = 9) then 1 else 0) := by
    unfold valT
    simp only []
    rw [if_neg (by omega), if_neg (by omega), if_neg (by omega), if_neg (by omega), if_neg (by omega)]
    rfl
  refine ⟨?_, by rw [hi, hv]⟩
  unfold stepV
  rw [hi, hv]
  simp only [ht, List.append_assoc, List.length_append, List.length_cons, List.length_nil]
  rw [show st.length + (0 + 1 + (0 + 1)) - (2 : Int).toNat = st.length by simp]
  simp
theorem ev_two {ts us : List Tm} {x y : Nat} (h : Ev S V C ts x) (h' : Ev S V C us y) {op : Int} (h5 : 5 ≤ op) (h16 : op ≤ 16) (hd : ¬ (y = 0 ∧ (op = 8 ∨ op = 9))) : Ev S V C (ts ++ us ++ [(op, 0)]) (opN S op x y) := by
  intro st tr
  rw [foldF_append, foldF_append, h, h']
  obtain ⟨e1, e2⟩ := two_step (S := S) (V := V) (C := C) st x y h5 h16
  simp only [foldF, List.foldl_cons, List.foldl_nil, stepF, e1, e2, if_neg hd]
  congr 1
  split
  · rename_i h0; exact h0.symm
  · rfl
/-- A trap stays. -/
theorem fold_stays (ts : List Tm) : ∀ (st : List Nat) (tr : Int), tr ≠ 0 → (foldF S V C (st, tr) ts).2 = tr := by
  induction ts with
  | nil => intro st tr _; rfl
  | cons t ts ih =>
    intro st tr h
    show (foldF S V C (stepF S V C (st, tr) t) ts).2 = tr
    have e : stepF S V C (st, tr) t = (stepV S V C st t, tr) := by simp only [stepF, if_neg h]
    rw [e]
    exact ih _ _ h
/-- By nought: the first trap is that of the division. -/
theorem ev_trap {ts us rest : List Tm} {x : Nat} (h : Ev S V C ts x) (h' : Ev S V C us 0) {op : Int} (ho : op = 8 ∨ op = 9) : trapV S V C (ts ++ us ++ [(op, 0)] ++ rest) (ts ++ us ++ [(op, 0)] ++ rest).length = 1 := by
  have e := fold_is (S := S) (V := V) (C := C) (ts ++ us ++ [(op, 0)] ++ rest) _ (Nat.le_refl _)
  rw [List.take_of_length_le (Nat.le_refl _)] at e
  have e2 : (foldF S V C ([], 0) (ts ++ us ++ [(op, 0)] ++ rest)).2 = 1 := by
    rw [foldF_append, foldF_append, foldF_append, h, h']
    obtain ⟨e1, e2⟩ := two_step (S := S) (V := V) (C := C) [] x 0 (op := op) (by omega) (by omega)
    have e3 : foldF S V C ([] ++ [x] ++ [0], 0) [(op, 0)] = (stepV S V C ([] ++ [x] ++ [0]) (op, 0), 1) := by
      simp only [foldF, List.foldl_cons, List.foldl_nil, stepF]
      rw [if_pos (by trivial), e2, if_pos ⟨rfl, ho⟩]
    rw [e3]
    exact fold_stays _ _ _ (by decide)
  rw [e] at e2
  exact e2
end
theorem sum_back {S x y : Nat} (hS : S = 4 ∨ S = 8) (hx : x < S) (hy : y < S) : opN S 6 (opN S 5 x y) y = x := by
  show ((x + y) % S + S - y) % S = x
  rcases hS with rfl | rfl <;> omega
theorem turn_back {S x : Nat} (hx : x < S) : opN S 3 (opN S 3 x 0) 0 = x := by
  show S - 1 - (S - 1 - x) = x
  omega
theorem cross_back {S x y : Nat} : opN S 12 (opN S 12 x y) y = x := by
  show (x ^^^ y) ^^^ y = x
  rw [Nat.xor_assoc, Nat.xor_self, Nat.xor_zero]
theorem less_none {S x : Nat} (hS : S = 4 ∨ S = 8) (hx : x < S) : opN S 5 x (opN S 4 x 0) = 0 := by
  show (x + (S - x) % S) % S = 0
  rcases hS with rfl | rfl <;> omega
theorem whole_is {S x y : Nat} (hx : x < S) (hy : y ≠ 0) : opN S 5 (opN S 7 (opN S 8 x y) y) (opN S 9 x y) = x := by
  show (x / y * y % S + (if y = 0 then 0 else x % y)) % S = x
  rw [if_neg hy, Nat.mod_eq_of_lt (Nat.lt_of_le_of_lt (Nat.div_mul_le_self x y) hx), Nat.mul_comm, Nat.div_add_mod, Nat.mod_eq_of_lt hx]
theorem mixed_small : ∀ x, x < 8 → ∀ y, y < 8 → (x &&& y) + (x ||| y) = x + y := by decide
theorem mixed_is {S x y : Nat} (hS : S = 4 ∨ S = 8) (hx : x < S) (hy : y < S) : opN S 5 (opN S 10 x y) (opN S 11 x y) = opN S 5 x y := by
  show ((x &&& y) + (x ||| y)) % S = (x + y) % S
  rw [mixed_small x (by omega) y (by omega)]
end Go.Proofs.Ytmppiefkeeanpaa
/- The contracts of the program's small helpers of chapter 3. -/
namespace Go.Proofs.Ytmppiefkeeanpaa
open Go.RowKit

def opensB (x : Int) : Bool := (x == 2 || x == 5) || x == 8
def secondB (x : Int) : Bool := x == 3 || x == 9
def takesB (op sec s : Int) : Bool := decide (sec < 0) && ((op == 2 && s == 3) || (op == 8 && s == 9))
def mayEndB (op sec : Int) : Bool := op != 8 || decide (0 ≤ sec)
/-- The program's head as a value. -/
def headV (wd tp : Int) (a1 a2 a3 a4 : Option Addr) (n1 n2 n3 n4 c1 c2 c3 c4 : Nat) : Value := .agg #[.int .i64 wd, .slice a1 n1 c1, .slice a2 n2 c2, .int .i64 tp, .slice a3 n3 c3, .slice a4 n4 c4]

theorem isWithin_any (x lo hi : Int) (w : World) :
    Calls Try.prog 70 #[.int .i64 x, .int .i64 lo, .int .i64 hi] w fun e w' => e = .returned (.bool (decide (lo ≤ x) && decide (x ≤ hi))) ∧ w = w' := by
  by_cases h1 : lo ≤ x
  · by_cases h2 : x ≤ hi
    · go_enter Try.func70, Try.ntmps70
      go_wp2
      go_ret
      exact ⟨ret_bool (by simp [h1, h2]), rfl⟩
    · go_enter Try.func70, Try.ntmps70
      go_wp2
      go_ret
      exact ⟨ret_bool (by rw [decide_eq_false (p := x ≤ hi) (by omega)]), rfl⟩
  · go_enter Try.func70, Try.ntmps70
    go_wp2
    go_ret
    exact ⟨ret_bool (by rw [decide_eq_false (p := lo ≤ x) (by omega), Bool.false_and]), rfl⟩
theorem isWithin_lat {w : World} (x lo hi : Int) {v : Bool} (hv : (decide (lo ≤ x) && decide (x ≤ hi)) = v) (p : Lat w) :
    Calls Try.prog 70 #[.int .i64 x, .int .i64 lo, .int .i64 hi] p.wd fun e w' => e = .returned (.bool v) ∧ Below p.wd.heap.size p.wd w' :=
  (isWithin_any x lo hi p.wd).mono fun _ _ ⟨he, hw⟩ => ⟨by rw [he, hv], by rw [← hw]; exact Below.refl _ _⟩
theorem opensBlock_any (x : Int) (w : World) : Calls Try.prog 108 #[.int .i64 x] w fun e w' => e = .returned (.bool (opensB x)) ∧ w = w' := by
  obtain ⟨R, HR⟩ : ∃ R, Hid (opensB x = R) := ⟨_, rfl⟩
  rw [HR.out]
  by_cases h : x = 2 ∨ x = 5 ∨ x = 8
  · have hR : R = true := by rw [← HR.out]; rcases h with rfl | rfl | rfl <;> rfl
    subst hR
    rcases h with rfl | rfl | rfl
    all_goals
      go_enter Try.func108, Try.ntmps108
      go_wp2
      go_ret
      exact ⟨rfl, rfl⟩
  · have k2 : (x == 2) = false := by simp; omega
    have k5 : (x == 5) = false := by simp; omega
    have k8 : (x == 8) = false := by simp; omega
    have hR : R = false := by rw [← HR.out]; simp [opensB, k2, k5, k8]
    subst hR
    go_enter Try.func108, Try.ntmps108
    go_wp2
    go_ret
    exact ⟨rfl, rfl⟩
theorem startsSecond_any (x : Int) (w : World) : Calls Try.prog 107 #[.int .i64 x] w fun e w' => e = .returned (.bool (secondB x)) ∧ w = w' := by
  obtain ⟨R, HR⟩ : ∃ R, Hid (secondB x = R) := ⟨_, rfl⟩
  rw [HR.out]
  by_cases h : x = 3 ∨ x = 9
  · have hR : R = true := by rw [← HR.out]; rcases h with rfl | rfl <;> rfl
    subst hR
    rcases h with rfl | rfl
    all_goals
      go_enter Try.func107, Try.ntmps107
      go_wp2
      go_ret
      exact ⟨rfl, rfl⟩
  · have k3 : (x == 3) = false := by simp; omega
    have k9 : (x == 9) = false := by simp; omega
    have hR : R = false := by rw [← HR.out]; simp [secondB, k3, k9]
    subst hR
    go_enter Try.func107, Try.ntmps107
    go_wp2
    go_ret
    exact ⟨rfl, rfl⟩
theorem takesLabel_any (x s y : Int) (w : World) : Calls Try.prog 117 #[.agg #[.int .i64 x, .int .i64 s], .int .i64 y] w fun e w' => e = .returned (.bool (takesB x s y)) ∧ Below w.heap.size w w' := by
  obtain ⟨R, HR⟩ : ∃ R, Hid (takesB x s y = R) := ⟨_, rfl⟩
  rw [HR.out]
  by_cases hs : 0 ≤ s
  · have hR : R = false := by rw [← HR.out, takesB, decide_eq_false (by omega)]; rfl
    subst hR
    go_enter Try.func117, Try.ntmps117
    go_wp2
    go_ret
    exact ⟨rfl, (Below.refl _ _).alloc (Nat.le_refl _) _⟩
  have hR : R = ((x == 2 && y == 3) || (x == 8 && y == 9)) := by rw [← HR.out, takesB, decide_eq_true (by omega)]; rfl
  have HR := Lib.hid hR
  clear hR
  by_cases h2 : x = 2
  · subst h2
    by_cases h3 : y = 3
    · subst h3
      have hR : R = true := HR.out
      subst hR
      go_enter Try.func117, Try.ntmps117
      go_wp2
      go_ret
      exact ⟨rfl, (Below.refl _ _).alloc (Nat.le_refl _) _⟩
    · have k3 : (y == 3) = false := by simpa using h3
      have hR : R = false := by rw [HR.out, k3]; rfl
      subst hR
      go_enter Try.func117, Try.ntmps117
      go_wp2
      go_ret
      exact ⟨rfl, (Below.refl _ _).alloc (Nat.le_refl _) _⟩
  have k2 : (x == 2) = false := by simpa using h2
  by_cases h8 : x = 8
  · subst h8
    by_cases h9 : y = 9
    · subst h9
      have hR : R = true := HR.out
      subst hR
      go_enter Try.func117, Try.ntmps117
      go_wp2
      go_ret
      exact ⟨rfl, (Below.refl _ _).alloc (Nat.le_refl _) _⟩
    · have k9 : (y == 9) = false := by simpa using h9
      have hR : R = false := by rw [HR.out, k9]; rfl
      subst hR
      go_enter Try.func117, Try.ntmps117
      go_wp2
      go_ret
      exact ⟨rfl, (Below.refl _ _).alloc (Nat.le_refl _) _⟩
  have k8 : (x == 8) = false := by simpa using h8
  have hR : R = false := by rw [HR.out, k2, k8]; rfl
  subst hR
  go_enter Try.func117, Try.ntmps117
  go_wp2
  go_ret
  exact ⟨rfl, (Below.refl _ _).alloc (Nat.le_refl _) _⟩
theorem mayEnd_any (x s : Int) (w : World) : Calls Try.prog 118 #[.agg #[.int .i64 x, .int .i64 s]] w fun e w' => e = .returned (.bool (mayEndB x s)) ∧ Below w.heap.size w w' := by
  obtain ⟨R, HR⟩ : ∃ R, Hid (mayEndB x s = R) := ⟨_, rfl⟩
  rw [HR.out]
  by_cases h8 : x = 8
  · subst h8
    by_cases hs : 0 ≤ s
    · have hR : R = true := by rw [← HR.out, mayEndB, decide_eq_true hs]; rfl
      subst hR
      go_enter Try.func118, Try.ntmps118
      go_wp2
      go_ret
      exact ⟨rfl, (Below.refl _ _).alloc (Nat.le_refl _) _⟩
    · have hR : R = false := by rw [← HR.out, mayEndB, decide_eq_false hs]; rfl
      subst hR
      go_enter Try.func118, Try.ntmps118
      go_wp2
      go_ret
      exact ⟨rfl, (Below.refl _ _).alloc (Nat.le_refl _) _⟩
  have k8 : (x != 8) = true := by simpa using h8
  have hR : R = true := by rw [← HR.out, mayEndB, k8]; rfl
  subst hR
  go_enter Try.func118, Try.ntmps118
  go_wp2
  go_ret
  exact ⟨rfl, (Below.refl _ _).alloc (Nat.le_refl _) _⟩
set_option maxHeartbeats 800000 in
theorem greatestValue_any (r : PRow) (W : Nat) (w : World) (hW : r.width = (W : Int)) (h8 : W ≤ 8) :
    Calls Try.prog 63 #[progV r] w fun e w' => e = .returned (.int .i64 (((2 ^ W : Nat) : Int) - 1)) ∧ Below w.heap.size w w' := by
  obtain ⟨wd, ⟨a1, n1, c1⟩, ⟨a2, n2, c2⟩, tp, ⟨a3, n3, c3⟩, ⟨a4, n4, c4⟩, rows⟩ := r
  simp only [] at hW
  subst hW
  show Calls Try.prog 63 #[.agg #[.int .i64 (W : Int), .slice a1 n1 c1, .slice a2 n2 c2, .int .i64 tp, .slice a3 n3 c3, .slice a4 n4 c4]] w _
  have hc : W = 0 ∨ W = 1 ∨ W = 2 ∨ W = 3 ∨ W = 4 ∨ W = 5 ∨ W = 6 ∨ W = 7 ∨ W = 8 := by omega
  rcases hc with rfl | rfl | rfl | rfl | rfl | rfl | rfl | rfl | rfl
  all_goals
    go_enter Try.func63, Try.ntmps63
    go_wp2
    go_ret
    exact ⟨rfl, (Below.refl _ _).alloc (Nat.le_refl _) _⟩
theorem firstTemp_any (r : PRow) (w : World) (h1 : r.lows.2.1 ≤ 1048576) (h2 : r.secrets.2.1 ≤ 1048576) :
    Calls Try.prog 71 #[progV r] w fun e w' => e = .returned (.int .i64 ((r.lows.2.1 : Int) + (r.secrets.2.1 : Int))) ∧ Below w.heap.size w w' := by
  obtain ⟨wd, ⟨a1, n1, c1⟩, ⟨a2, n2, c2⟩, tp, ⟨a3, n3, c3⟩, ⟨a4, n4, c4⟩, rows⟩ := r
  simp only [] at h1 h2
  show Calls Try.prog 71 #[.agg #[.int .i64 wd, .slice a1 n1 c1, .slice a2 n2 c2, .int .i64 tp, .slice a3 n3 c3, .slice a4 n4 c4]] w _
  go_enter Try.func71, Try.ntmps71
  go_wp2
  go_ret
  exact ⟨rfl, (Below.refl _ _).alloc (Nat.le_refl _) _⟩
end Go.Proofs.Ytmppiefkeeanpaa
