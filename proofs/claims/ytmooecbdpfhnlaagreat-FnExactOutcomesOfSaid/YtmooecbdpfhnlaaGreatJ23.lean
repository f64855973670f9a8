/- Joined texts of this proof (EnvMark, StartAns, SpecAll, StepRun, RunAns), in build order. -/
import Derived.Test.YtmooecbdpfhnlaaGreatJ13
import Derived.Test.YtmooecbdpfhnlaaGreatJ19
import Derived.Test.YtmooecbdpfhnlaaGreatJ22
import Derived.Test.YtmooecbdpfhnlaaGreatJ16
/- The laws' own marks on environments (markInt64SS, heldInt64SS, markEnv, heldEnv). -/
namespace Go.Proofs.YtmooecbdpfhnlaaGreat
open Go.RowKit

/-- How many numbers the first i have. -/
def sumC (css : List (List Int)) : Nat → Nat
  | 0 => 0
  | i + 1 => sumC css i + (intsAt css i).length
theorem sumC_mono (css : List (List Int)) (i j : Nat) (h : i ≤ j) : sumC css i ≤ sumC css j := by
  induction j with
  | zero => obtain rfl : i = 0 := by omega
            exact Nat.le_refl _
  | succ j ih =>
    rcases Nat.lt_or_ge i (j + 1) with h' | h'
    · have := ih (by omega); simp only [sumC]; omega
    · obtain rfl : i = j + 1 := by omega
      exact Nat.le_refl _
/-- The first i marked. -/
def MarkIS (css : List (List Int)) (k i : Nat) : List (List Int) := (List.range css.length).map (fun j => if j < i then marks ((k + sumC css j : Nat) : Int) (intsAt css j).length else intsAt css j)
theorem markIS_len (css : List (List Int)) (k i : Nat) : (MarkIS css k i).length = css.length := by simp [MarkIS]
theorem markIS_at (css : List (List Int)) (k i j : Nat) (h : j < css.length) : intsAt (MarkIS css k i) j = if j < i then marks ((k + sumC css j : Nat) : Int) (intsAt css j).length else intsAt css j := by
  simp [MarkIS, intsAt, List.getD_eq_getElem?_getD, h]
theorem markIS_zero (css : List (List Int)) (k : Nat) : MarkIS css k 0 = css := by
  apply List.ext_getElem (by rw [markIS_len])
  intro j h1 h2
  have := markIS_at css k 0 j h2
  simpa [intsAt, List.getD_eq_getElem?_getD, h1, h2] using this
/-- Each row in a block of its own. -/
def RowsOne (n : Nat) (rs : List Sl) : Prop := ∀ i j g, i < n → j < n → (slV (slAt rs i)).ownBlock = some g → (slV (slAt rs j)).ownBlock = some g → i = j
/-- Only the rows' own blocks have turned. -/
structure RowsOnly (n : Nat) (rs : List Sl) (w w' : World) : Prop where
  os : w'.os = w.os
  tape : w'.tape = w.tape
  output : w'.output = w.output
  size : w.heap.size ≤ w'.heap.size
  block : ∀ k, k < w.heap.size → (∀ i, i < n → (slV (slAt rs i)).ownBlock ≠ some k) → w'.heap[k]? = w.heap[k]?
section
variable {w w' w'' : World} {n c B m : Nat} {a : Option Addr} {rs : List Sl} {css css' : List (List Int)} {zs : List Int} {row : Option Nat}
theorem RowsOnly.refl (n : Nat) (rs : List Sl) (w : World) : RowsOnly n rs w w := ⟨rfl, rfl, rfl, Nat.le_refl _, fun _ _ _ => rfl⟩
theorem RowsOnly.grown (h : RowsOnly n rs w w') {i : Nat} (hi : i < n) (hg : w'.grownBy w'' (slV (slAt rs i)).ownBlock) : RowsOnly n rs w w'' :=
  ⟨hg.os.trans h.os, hg.tape.trans h.tape, hg.output.trans h.output, Nat.le_trans h.size hg.size, fun k hk hr => (hg.block k (Nat.lt_of_lt_of_le hk h.size) (fun e => hr i hi e.symm)).trans (h.block k hk hr)⟩
theorem RowsOnly.own (h : RowsOnly n rs w w') (ho : Own w B a m c zs) (hr : ∀ i g, i < n → (slV (slAt rs i)).ownBlock = some g → (Value.slice a m c).ownBlock ≠ some g) : Own w' B a m c zs := by
  refine ⟨⟨ho.1.1, ?_⟩, ho.2⟩
  rcases ho.1.2 with hn | ⟨g, cap, cur, hv, hb, hg, rest⟩
  · exact .inl hn
  · exact .inr ⟨g, cap, cur, hv, hb, (h.block g (Array.getElem?_eq_some_iff.1 hg).1 (fun i hi e => hr i g hi e (by rw [hv]; rfl))).trans hg, rest⟩
theorem RowsOnly.below (h : RowsOnly n rs w w') (hr : ∀ i g, i < n → (slV (slAt rs i)).ownBlock = some g → B ≤ g) (hB : B ≤ w.heap.size) : Below B w w' :=
  ⟨h.os, h.tape, h.output, h.size, fun k hk => h.block k (by omega) (fun i hi e => by have := hr i k hi e; omega)⟩
theorem RowsOnly.span {lo hi : Nat} (h : RowsOnly n rs w w') (hr : ∀ i g, i < n → (slV (slAt rs i)).ownBlock = some g → lo ≤ g ∧ g < hi) : Span lo hi w w' :=
  ⟨h.os, h.tape, h.output, h.size, fun k hk hk' => h.block k hk (fun i hi e => by have := hr i k hi e; omega)⟩
theorem ownIS_put (h : OwnIS w B a n c rs css) (cc : RowsOne n rs) {i : Nat} (hi : i < n) (ho : Own w' B (slAt rs i).1 (slAt rs i).2.1 (slAt rs i).2.2 (intsAt css' i))
    (hg : w.grownBy w' (slV (slAt rs i)).ownBlock) (hl : css'.length = n) (he : ∀ j, j < n → j ≠ i → intsAt css' j = intsAt css j) : OwnIS w' B a n c rs css' := by
  obtain ⟨h1, h2, h3, h4⟩ := h
  refine ⟨?_, h2, hl, fun j hj => ?_⟩
  · refine h1.kept hg ?_
    cases hv : (Value.slice a n c).ownBlock with
    | none => exact .inl rfl
    | some g => exact .inr (fun e => own_kinds h1 (h4 i hi).1 (by decide) hv e.symm)
  · by_cases hji : j = i
    · subst hji; exact ho
    · rw [he j hj hji]
      exact (h4 j hj).keep hg (fun g hgg e => hji (cc j i g hj hi hgg e))
end
/-- Where the own blocks of an environment lie. -/
structure EnvIn (lo hi : Nat) (er : ERow) : Prop where
  vars : SlIn lo hi er.vars
  rows : ∀ i g, i < er.cells.2.1 → (slV (slAt er.rows i)).ownBlock = some g → lo ≤ g ∧ g < hi
theorem EnvMem.inside {w : World} {B : Nat} {er : ERow} {os : Sl} {q : Sta} (h : EnvMem w B er os q) : EnvIn B w.heap.size er :=
  ⟨fun g hg => h.vars.block g hg, fun i g hi hg => (h.cells.2.2.2 i hi).block g hg⟩
/-- An environment, marked. -/
def markQ (q : Sta) (k : Nat) : Sta := ⟨marks (k : Int) q.vars.length, MarkIS q.cells (k + q.vars.length) q.cells.length, q.outs⟩
def sizeQ (q : Sta) : Nat := q.vars.length + sumC q.cells q.cells.length
end Go.Proofs.YtmooecbdpfhnlaaGreat
/- The answers of StartOf, the program's and the model's, as a law asks for them. -/
namespace Go.Proofs.YtmooecbdpfhnlaaGreat
open Go.RowKit

/-- An environment and whether there is one. -/
def AnsEnv (w : World) (b : Bool) (q : Sta) (e : Ending) (w' : World) : Prop :=
  Below w.heap.size w w' ∧ ∃ er : ERow, e = .returned (.tuple #[envV er, .bool b]) ∧ EnvMem w' w.heap.size er (none, 0, 0) q
theorem envMem_none (w : World) (B : Nat) : EnvMem w B ⟨(none, 0, 0), (none, 0, 0), []⟩ (none, 0, 0) ⟨[], [], []⟩ :=
  ⟨own_nil _ _, ⟨World.ownsRow_nil _ _ _ _, Nat.zero_le _, rfl, fun i hi => absurd hi (by simp only []; omega)⟩, own_nil _ _, fun g _ e => by simp [slV, Value.ownBlock] at e, fun i g hi => absurd hi (by simp only []; omega), fun i g hi => absurd hi (by simp only []; omega), fun i j g hi => absurd hi (by simp only []; omega)⟩
/-- What StartOf tells. -/
noncomputable def startR (p : Prg) (ls ss : List Int) : Sta := if startB p ls ss = true then startQ p ls ss else ⟨[], [], []⟩
theorem sumC_le {css : List (List Int)} {m : Nat} (h : ∀ i, i < css.length → (intsAt css i).length ≤ m) : ∀ k, k ≤ css.length → sumC css k ≤ k * m
  | 0, _ => by simp [sumC]
  | k + 1, hk => by
    have := sumC_le h k (by omega)
    have := h k (by omega)
    rw [sumC, Nat.add_mul]
    omega
theorem sta_size {p : Prg} {q : Sta} (h : StaOk p q) : sizeQ q ≤ 3000 := by
  obtain ⟨e1, e2, e3, e4, e5⟩ := envB_ok h.env
  have hd := code_head e1
  have hr := (code_parts e1).2
  simp only [roomB, Bool.and_eq_true, decide_eq_true_eq, List.all_eq_true] at hr
  simp only [envOf] at e2 e3 e5
  have hs := sumC_le (css := q.cells) (m := 6) (fun i hi => by
    have h1 := e5 i hi
    have h2 := hr.2 _ (getD_mem (show i < p.arrays.length by omega))
    omega) q.cells.length (Nat.le_refl _)
  unfold sizeQ
  omega
theorem startR_size (p : Prg) (ls ss : List Int) : sizeQ (startR p ls ss) ≤ 3000 := by
  unfold startR
  by_cases h : startB p ls ss = true
  · rw [if_pos h]; exact sta_size (start_ok h)
  · rw [if_neg h]; simp [sizeQ, sumC]
theorem specStartOf_ans (r : PRow) (p : Prg) (a a' : Option Addr) (n c n' c' : Nat) (ls ss : List Int) (w : World) (h : ProgAt w r p) (h1 : Ints w a n ls) (h2 : Ints w a' n' ss) :
    Calls Tryz.prog 105 #[progV r, .slice a n c, .slice a' n' c'] w (AnsEnv w (startB p ls ss) (startR p ls ss)) :=
  (specStartOf_any r p a a' n c n' c' ls ss w h h1 h2).mono (fun e w' hh => by
    obtain ⟨hb, ⟨h0, er, he, hm⟩ | ⟨h0, he⟩⟩ := hh
    · rw [startR, if_pos h0, h0]; exact ⟨hb, er, he, hm⟩
    · rw [startR, if_neg (by rw [h0]; decide), h0]; exact ⟨hb, ⟨(none, 0, 0), (none, 0, 0), []⟩, he, envMem_none _ _⟩)
theorem implStartOf_ans (r : PRow) (p : Prg) (a a' : Option Addr) (n c n' c' : Nat) (ls ss : List Int) (w : World) (h : ProgAt w r p) (hcap : r.body.2.1 ≤ r.body.2.2) (h1 : Ints w a n ls) (h2 : Ints w a' n' ss) :
    Calls Tryz.prog 56 #[progV r, .slice a n c, .slice a' n' c'] w (AnsEnv w (startB p ls ss) (startR p ls ss)) := by
  by_cases h0 : startB p ls ss = true
  · rw [startR, if_pos h0, h0]
    exact (implStartOf_yes r p a a' n c n' c' ls ss w h hcap h1 h2 h0).mono (fun e w' ⟨er, he, hm, hb⟩ => ⟨hb, er, he, hm⟩)
  · have h0' : startB p ls ss = false := by simpa using h0
    rw [startR, if_neg h0, h0']
    exact (implStartOf_no r p a a' n c n' c' ls ss w h hcap h1 h2 h0').mono (fun e w' ⟨he, hb⟩ => ⟨hb, ⟨(none, 0, 0), (none, 0, 0), []⟩, he, envMem_none _ _⟩)
end Go.Proofs.YtmooecbdpfhnlaaGreat
/- The contracts of the model's l8All, l8Right. -/
namespace Go.Proofs.YtmooecbdpfhnlaaGreat
open Go.RowKit

/-- Those that fit, in order. -/
def pickTo (f : Nat → Bool) (os : List Oc) : Nat → List Oc
  | 0 => []
  | k + 1 => if f k then pickTo f os k ++ [oAt os k] else pickTo f os k
theorem pickTo_len (f : Nat → Bool) (os : List Oc) : ∀ k, (pickTo f os k).length ≤ k
  | 0 => Nat.le_refl _
  | k + 1 => by
    have := pickTo_len f os k
    rw [pickTo]
    split
    · simp; omega
    · omega
set_option maxHeartbeats 3200000 in
theorem l8All_any (wd tp : Int) (p1 p2 p3 p4 : Option Addr) (n1 n2 n3 n4 c1 c2 c3 c4 : Nat) (a ao al af : Option Addr) (n c co nl cl nf cf B E : Nat) (rs : List Sl) (css : List (List Int)) (rows : List OcR) (os : List Oc) (zs : List Int) (fr : List Bool) (w : World)
    (hi : IntsSS w a n rs css) (ho : OwnO w B E ao n co rows os) (hl : Ints w al nl zs) (hf : Bools w af nf fr) (hm : ∀ i, i < n → (intsAt css i).length = nl) (hn : nl ≤ n1 + nf) :
    Calls Tryz.prog 84 #[.agg #[.int .i64 wd, .slice p1 n1 c1, .slice p2 n2 c2, .int .i64 tp, .slice p3 n3 c3, .slice p4 n4 c4], .slice a n c, .slice ao n co, .slice al nl cl, .slice af nf cf] w
      (MadeO w E (pickTo (fun i => fitsB n1 fr (intsAt css i) zs) os n)) := by
  obtain ⟨wa, HW⟩ : ∃ wa, Hid (wa = w.alloc (.cells #[.int .i64 wd, .slice p1 n1 c1, .slice p2 n2 c2, .int .i64 tp, .slice p3 n3 c3, .slice p4 n4 c4] 31)) := ⟨_, rfl⟩
  have BX : Blk wa w.heap.size 31 [.int .i64 wd, .slice p1 n1 c1, .slice p2 n2 c2, .int .i64 tp, .slice p3 n3 c3, .slice p4 n4 c4] := by rw [HW.out]; exact Blk.new w _ _
  have hba : Below w.heap.size w wa := by rw [HW.out]; exact belA' (Below.refl _ _)
  have HI := Lib.hid (hi.below hba)
  have HO := Lib.hid (ho.below hba)
  have HL := Lib.hid (hl.below hba)
  have HF := Lib.hid (hf.below hba)
  have HM := Lib.hid hm
  have HBA := Lib.hid hba
  have HX := Lib.hid BX
  have hn6 := hi.2.2.1
  have HSZ : Hid (wa.heap.size = w.heap.size + 1) := Lib.hid (by rw [HW.out]; simp)
  obtain ⟨f, HFF⟩ : ∃ f : Nat → Bool, Hid (f = fun i => fitsB n1 fr (intsAt css i) zs) := ⟨_, rfl⟩
  rw [← HFF.out]
  clear hi ho hl hf hm hba BX
  go_enter Tryz.func84, Tryz.ntmps84
  go_wp2_with fail
  rw [← HW.out]
  go_loopw [11, 12] (fun v i wr => ∃ (k m d : Nat) (av : Option Addr) (rs' : List OcR), k ≤ n ∧ m ≤ k ∧ i = .int .i64 (k : Int) ∧ v = .slice av m d ∧ OwnO wr wa.heap.size E av m d rs' (pickTo f os k) ∧ Below wa.heap.size wa wr) (fun _ i _ => n - (intOf i).toNat)
  case atStart => exact ⟨0, 0, 0, _, [], by omega, by omega, rfl, rfl, by have := ownO_empty wa wa.heap.size E (Nat.le_refl _); simpa [HSZ.out, pickTo] using this, belA' (Below.refl _ _)⟩
  case round =>
    obtain ⟨k, m, d, av, rs', hk, hmk, rfl, rfl, hown, hbel⟩ := hrel
    by_cases hlt : k < n
    · have hX := HX.out.below hbel HX.out.lt
      obtain ⟨b, o, a1, m1, d1, rfl, hb, hr, hc, hI⟩ := (HI.out.below hbel).at_ hlt
      obtain rfl : m1 = nl := by have := HM.out k hlt; have := hI.1; omega
      have y1 := lat_cell hX.lt (hX.cell (j := 1) rfl)
      have z1 := lat_cell hb hc
      obtain ⟨q, HQ⟩ : ∃ q, Hid (f k = q) := ⟨_, rfl⟩
      have HL1 := Lib.hid (HL.out.below hbel)
      have HF1 := Lib.hid (HF.out.below hbel)
      have HCL : Hid (∀ p : Lat wr, Calls Tryz.prog 126 #[.slice a1 m1 d1, .slice al m1 cl, .int .i64 (n1 : Int), .slice af nf cf] p.wd fun e w' => e = .returned (.bool q) ∧ Below p.wd.heap.size p.wd w') := Lib.hid (fun p => by
        rw [← HQ.out, HFF.out]
        exact l8Fits_any a1 al af m1 d1 m1 cl nf cf n1 (intsAt css k) zs fr p.wd (hI.below p.ok) (HL1.out.below p.ok) (HF1.out.below p.ok) rfl hn)
      clear hI hr hX hb hc HL1 HF1
      cases q with
      | true =>
        have HE : Hid (pickTo f os (k + 1) = pickTo f os k ++ [oAt os k]) := Lib.hid (by rw [pickTo, HQ.out, if_pos rfl])
        clear HQ
        go_wp2
        refine wp_region_lat (by kernel_rfl) (by kernel_rfl) ?_
        repeat (go_big_quiet_step ((go_at_call 126; exact lat_calls (HCL.out _))))
        refine wpQuiet_nil ?_
        intro wq hw'
        obtain ⟨⟨wz, hb⟩, hw''⟩ := hw'
        subst hw''
        have hown := hown.below hb
        have hbel := hbel.trans (hb.mono hbel.size)
        have hs := hbel.size
        obtain ⟨g, v1, m2, d2, en1, co1, rfl, hg, hR, hc0, hc1, hc2, hoc⟩ := (HO.out.below hbel).at_ hlt
        clear y1 z1 HCL hb hR
        go_wp2_with (at_builtin; (refine wpList_pushO _ rfl _ _ rfl wa.heap.size E _ _ _ rs' (pickTo f os k) rfl (hown.alloc _) wq.heap.size v1 m2 d2 en1 co1 (oAt os k) rfl (by simp) (by simp) (by simp) (hoc.out.below (belA' (Below.refl _ _))) (by omega) (by simp; omega) ?_))
        intro a8 c8 w8 hown8 hg8
        have hb8 : Below wa.heap.size wa w8 := (hbel.alloc hs _).grown hg8.1 (by simp; omega) (fun g e => (hown.block g e).1)
        rw [← HE.out] at hown8
        clear hown hbel hg8 hc0 hc1 hc2 hoc hg
        go_wp2
        go_roundw
        case rel => exact ⟨k + 1, m + 1, c8, a8, _, by omega, by omega, by go_num, rfl, hown8, hb8⟩
        case measure => simp [intOf]; omega
      | false =>
        have HE : Hid (pickTo f os (k + 1) = pickTo f os k) := Lib.hid (by rw [pickTo, HQ.out]; rfl)
        clear HQ
        go_wp2
        refine wp_region_lat (by kernel_rfl) (by kernel_rfl) ?_
        repeat (go_big_quiet_step ((go_at_call 126; exact lat_calls (HCL.out _))))
        refine wpQuiet_nil ?_
        intro wq hw'
        obtain ⟨⟨wz, hb⟩, hw''⟩ := hw'
        subst hw''
        have hown := hown.below hb
        have hbel := hbel.trans (hb.mono hbel.size)
        rw [← HE.out] at hown
        clear y1 z1 HCL hb
        go_wp2
        go_roundw
        case rel => exact ⟨k + 1, m, d, av, rs', by omega, by omega, by go_num, rfl, hown, hbel⟩
        case measure => simp [intOf]; omega
    · obtain rfl : n = k := by omega
      have hown := hown.base HBA.out.size
      have hbel := HBA.out.trans (hbel.mono HBA.out.size)
      go_wp2
      go_ret
      exact ⟨_, _, _, _, rfl, hown, hbel⟩
set_option maxRecDepth 20000 in
set_option maxHeartbeats 1600000 in
theorem l8Right_any (r : PRow) (p : Prg) (a a' af : Option Addr) (n c n' c' nf cf : Nat) (ls ss : List Int) (w : World) (h : ProgAt w r p) (h1 : Ints w a n ls) (h2 : Ints w a' n' ss) :
    Calls Tryz.prog 83 #[progV r, .slice a n c, .slice a' n' c', .slice af nf cf] w fun e w' => e = .returned (.bool (startB p ls ss && decide (nf = r.secrets.2.1))) ∧ Below w.heap.size w w' := by
  obtain ⟨R, HR⟩ : ∃ R, Hid ((startB p ls ss && decide (nf = r.secrets.2.1)) = R) := ⟨_, rfl⟩
  rw [HR.out]
  have HP := Lib.hid h
  have HI1 := Lib.hid h1
  have HI2 := Lib.hid h2
  clear h h1 h2
  obtain ⟨wd, ⟨a1, n1, c1⟩, ⟨a2, n2, c2⟩, tp, ⟨a3, n3, c3⟩, ⟨a4, n4, c4⟩, rows⟩ := r
  show Calls Tryz.prog 83 #[.agg #[.int .i64 wd, .slice a1 n1 c1, .slice a2 n2 c2, .int .i64 tp, .slice a3 n3 c3, .slice a4 n4 c4], .slice a n c, .slice a' n' c', .slice af nf cf] w _
  have hR := HR.out
  simp only [] at hR
  obtain ⟨s, HS⟩ : ∃ s, Hid (startB p ls ss = s) := ⟨_, rfl⟩
  rw [HS.out] at hR
  have HRR := Lib.hid hR
  clear hR HR
  obtain ⟨wa, HW⟩ : ∃ wa, Hid (wa = w.alloc (.cells #[.int .i64 wd, .slice a1 n1 c1, .slice a2 n2 c2, .int .i64 tp, .slice a3 n3 c3, .slice a4 n4 c4] 31)) := ⟨_, rfl⟩
  have B0 : Blk wa w.heap.size 31 [.int .i64 wd, .slice a1 n1 c1, .slice a2 n2 c2, .int .i64 tp, .slice a3 n3 c3, .slice a4 n4 c4] := by rw [HW.out]; exact Blk.new w _ _
  have HB : Below w.heap.size w wa := by rw [HW.out]; exact belA' (Below.refl _ _)
  go_enter Tryz.func83, Tryz.ntmps83
  go_wp2_with fail
  rw [← HW.out]
  refine (specStartOf_ans ⟨wd, (a1, n1, c1), (a2, n2, c2), tp, (a3, n3, c3), (a4, n4, c4), rows⟩ p a a' n c n' c' ls ss _ (HP.out.below HB) (HI1.out.below HB) (HI2.out.below HB)).mono ?_
  rintro e w1 ⟨hb1, ⟨⟨va, vn, vc⟩, ⟨ca, cn, cc⟩, rws⟩, rfl, _⟩
  simp only [envV, slV, HS.out]
  have hb2 : Below w1.heap.size w1 (w1.alloc (.cells #[.slice va vn vc, .slice ca cn cc] 90)) := belA' (Below.refl _ _)
  have B1 := (B0.below hb1 B0.lt).below hb2 (B0.below hb1 B0.lt).lt
  have t2 := B1.cell (j := 2) rfl
  have HF := Lib.hid (HB.trans ((hb1.trans (hb2.mono hb1.size)).mono HB.size))
  clear HW B0 B1 hb1 hb2
  cases s with
  | false =>
    have HX : Hid (false = R) := Lib.hid (by rw [← HRR.out]; rfl)
    go_wp2
    go_ret
    exact ⟨ret_bool HX.out, HF.out⟩
  | true =>
    by_cases hnf : nf = n2
    · have he : ((nf : Int) == (n2 : Int)) = true := by simp; omega
      have HX : Hid (true = R) := Lib.hid (by rw [← HRR.out, decide_eq_true hnf]; rfl)
      clear hnf
      go_wp2
      go_ret
      exact ⟨ret_bool HX.out, HF.out⟩
    · have he : ((nf : Int) == (n2 : Int)) = false := by simp; omega
      have HX : Hid (false = R) := Lib.hid (by rw [← HRR.out, decide_eq_false hnf]; rfl)
      clear hnf
      go_wp2
      go_ret
      exact ⟨ret_bool HX.out, HF.out⟩
end Go.Proofs.YtmooecbdpfhnlaaGreat
/- A step of a region that draws, by its run; 'append(xs, ys...)' and 'append(xs, make(..)...)' at numbers, at such a step. -/
namespace Go.Proofs.YtmooecbdpfhnlaaGreat
open Go.RowKit

theorem step_run {ops : Array Oper} {o : Oper} {ac : Act} {K : Act → World → Prop} {Q : Exit → Act → World → Prop} {E : Prop} (w : World) (hgd : o.guard = none) (s x : Operand) (t1 t2 : TypeId)
    (ho : o.op = .call { callee := .builtin .append, args := #[s, x], argTypes := #[t1, t2] }) (v u : Value) (hs : ac.eval s = v) (hx : ac.eval x = u) (r : Value) (w' : World)
    (hrun : (Builtin.append_ #[t1, t2] o.type #[v, u]).run Tryz.prog w = .ok r w') (h : K (ac.put o.dst r) w') :
    if Region.wanted o (yielded ops ac.tmps) = true then Oper.wp Tryz.prog o ac w K Q else E := by
  have hwant : Region.wanted o (yielded ops ac.tmps) = true := by simp [Region.wanted, hgd]
  rw [if_pos hwant]
  unfold Oper.wp
  simp [execOp, ho, resolve, invoke, builtin, hs, hx, hrun, Result.andThen]
  exact h
set_option maxRecDepth 20000 in
theorem run_append_ints (w : World) (ty : TypeId) (B : Nat) (a : Option Addr) (n c : Nat) (zs : List Int) (hown : Own w B a n c zs) (a2 : Option Addr) (m c2 : Nat) (ys : List Int) (hi2 : Ints w a2 m ys) (hn : n + m ≤ 1048576) (hB : B ≤ w.heap.size) :
    ∃ a1 c1 w', (Builtin.append_ #[28, 28] ty #[.slice a n c, .slice a2 m c2]).run Tryz.prog w = .ok (.slice a1 (n + m) c1) w' ∧ Own w' B a1 (n + m) c1 (zs ++ ys) ∧ w.grownBy w' (Value.slice a n c).ownBlock := by
  cases a2 with
  | none =>
    have hm : m = 0 := by
      rcases Nat.eq_zero_or_pos m with h0 | h0
      · exact h0
      · obtain ⟨b, o', e, _⟩ := hi2.2.2.2 h0
        cases e
    subst hm
    have hys : ys = [] := List.eq_nil_of_length_eq_zero hi2.1
    subst hys
    exact ⟨a, c, w, run_append_nothing w ty (.slice a n c) B n _ hown.1 c2, by simpa using hown, World.grownBy.refl _ _⟩
  | some ad =>
    obtain ⟨i0, hi, hz0, hz1, hz2⟩ := info_parts info_i64
    have hl := hi2.1
    obtain ⟨v', w', hr, h1, h2, _⟩ := run_append_own (P := Tryz.prog) w B 28 ty 2 i0 (.int .i64 0) 1 8 Tryz.underlying28 hi hz0 hz1 hz2 rfl (by omega) (.slice a n c) n (zs.map (Value.int .i64)) hown.1
      ad m c2 (ys.map (Value.int .i64)) (by simp [hl]) (fun j u hj => by
        have hjl : j < ys.length := by have := (List.getElem?_eq_some_iff.1 hj).1; simpa using this
        obtain ⟨b, off, e, _, hc⟩ := hi2.2.2.2 (by omega)
        injection e with e
        subst e
        rw [Go.WideShapes.add_plain, hc j (by omega), ← hj]
        simp [List.getD_eq_getElem?_getD, hjl]) (ints_oneCell _ _) (by unfold maxLen; omega) (by omega) hB
    have hf : ∃ a1 c1, v' = .slice a1 (n + m) c1 := by
      rcases h1.2 with ⟨e, h0⟩ | ⟨g', cap, cur, e, _⟩
      · exact ⟨none, 0, by rw [e, h0]⟩
      · exact ⟨_, _, e⟩
    obtain ⟨a1, c1, rfl⟩ := hf
    refine ⟨a1, c1, w', hr, ⟨by simpa using h1, hn, fun y hy => ?_⟩, h2⟩
    rcases List.mem_append.1 hy with hy | hy
    · exact hown.2.2 y hy
    · exact hi2.2.2.1 y hy
theorem step_ints {ops : Array Oper} {o : Oper} {ac : Act} {K : Act → World → Prop} {Q : Exit → Act → World → Prop} {E : Prop} (w : World) (hgd : o.guard = none) (s x : Operand)
    (ho : o.op = .call { callee := .builtin .append, args := #[s, x], argTypes := #[28, 28] })
    (B : Nat) (a : Option Addr) (n c : Nat) (zs : List Int) (hs : ac.eval s = .slice a n c) (hown : Own w B a n c zs)
    (a2 : Option Addr) (m c2 : Nat) (ys : List Int) (hx : ac.eval x = .slice a2 m c2) (hi2 : Ints w a2 m ys) (hn : n + m ≤ 1048576) (hB : B ≤ w.heap.size)
    (h : ∀ a1 c1 w', Own w' B a1 (n + m) c1 (zs ++ ys) → w.grownBy w' (Value.slice a n c).ownBlock → K (ac.put o.dst (.slice a1 (n + m) c1)) w') :
    if Region.wanted o (yielded ops ac.tmps) = true then Oper.wp Tryz.prog o ac w K Q else E := by
  obtain ⟨a1, c1, w', hr, h1, h2⟩ := run_append_ints w o.type B a n c zs hown a2 m c2 ys hi2 hn hB
  exact step_run w hgd s x 28 28 ho _ _ hs hx _ _ hr (h a1 c1 w' h1 h2)
theorem step_zeros {ops : Array Oper} {o : Oper} {ac : Act} {K : Act → World → Prop} {Q : Exit → Act → World → Prop} {E : Prop} (w : World) (hgd : o.guard = none) (s x : Operand)
    (ho : o.op = .call { callee := .builtin .append, args := #[s, x], argTypes := #[28, 2] })
    (B : Nat) (a : Option Addr) (n c : Nat) (zs : List Int) (hs : ac.eval s = .slice a n c) (hown : Own w B a n c zs)
    (m : Nat) (hx : ac.eval x = .int .i64 (m : Int)) (hn : n + m ≤ 1048576) (hB : B ≤ w.heap.size)
    (h : ∀ a1 c1 w', Own w' B a1 (n + m) c1 (zs ++ List.replicate m 0) → w.grownBy w' (Value.slice a n c).ownBlock → K (ac.put o.dst (.slice a1 (n + m) c1)) w') :
    if Region.wanted o (yielded ops ac.tmps) = true then Oper.wp Tryz.prog o ac w K Q else E := by
  obtain ⟨a1, c1, w', hr, h1, h2⟩ := run_append_zeros w o.type B a n c zs m hown hn hB
  exact step_run w hgd s x 28 2 ho _ _ hs hx _ _ hr (h a1 c1 w' h1 h2)
theorem own_emptyB (X : World) (B b : Nat) (h : X.heap.size = b) (hB : B ≤ b) : Own (X.alloc (.cells #[] 2)) B (some ⟨b, 0, none⟩) 0 0 [] := by rw [← h]; exact own_empty X B (by omega)
theorem own_zero {w : World} {B : Nat} {a : Option Addr} {n c : Nat} {zs : List Int} (h : Own w B a (0 + n) c ([] ++ zs)) : Own w B a n c zs := by rw [Nat.zero_add] at h; exact h
theorem own_drew {w : World} {B : Nat} {a : Option Addr} {n c : Nat} {zs : List Int} (h : Own w B a n c zs) : Own w.drew B a n c zs := h
end Go.Proofs.YtmooecbdpfhnlaaGreat
/- What RunOf and AfterOf tell. -/
namespace Go.Proofs.YtmooecbdpfhnlaaGreat
open Go.RowKit

theorem startB_ok {p : Prg} {ls ss : List Int} (h : startB p ls ss = true) : codeB p = 0 := by
  have h' : (codeB p == 0 && (areB p.lows ls && areB p.secrets ss)) = true := h
  simp only [Bool.and_eq_true, beq_iff_eq] at h'
  exact h'.1
theorem run_exists {p : Prg} {ls ss : List Int} (h : startB p ls ss = true) : ∃ x : Sta × Rz, ∃ s, s ≤ 400 ∧ Runs (2 ^ p.width.toNat) p.body .seq 0 p.body.length s (startQ p ls ss) x.1 x.2 := by
  obtain ⟨_, s, hs, hst⟩ := code_good (startB_ok h)
  obtain ⟨q', r, hr⟩ := runs_total hst (startQ p ls ss)
  exact ⟨(q', r), s, hs, hr⟩
/-- Where the run ends, and how. -/
noncomputable def runX (p : Prg) (ls ss : List Int) : Sta × Rz := if h : startB p ls ss = true then Classical.choose (run_exists h) else (⟨[], [], []⟩, (0, 0))
theorem runX_spec {p : Prg} {ls ss : List Int} (h : startB p ls ss = true) : ∃ s, s ≤ 400 ∧ Runs (2 ^ p.width.toNat) p.body .seq 0 p.body.length s (startQ p ls ss) (runX p ls ss).1 (runX p ls ss).2 := by
  rw [runX, dif_pos h]; exact Classical.choose_spec (run_exists h)
theorem runX_no {p : Prg} {ls ss : List Int} (h : startB p ls ss = false) : runX p ls ss = (⟨[], [], []⟩, (0, 0)) := by rw [runX, dif_neg (by rw [h]; decide)]
noncomputable def outR (p : Prg) (ls ss : List Int) : List Int := (runX p ls ss).1.outs
noncomputable def endR (p : Prg) (ls ss : List Int) : Rz := (runX p ls ss).2
noncomputable def afterR (p : Prg) (ls ss : List Int) : Sta := ⟨(runX p ls ss).1.vars, (runX p ls ss).1.cells, []⟩
theorem runX_ok {p : Prg} {ls ss : List Int} (h : startB p ls ss = true) : StaOk p (runX p ls ss).1 := by
  obtain ⟨s, _, hr⟩ := runX_spec h
  exact hr.ok (code_good (startB_ok h)).1 (start_ok h)
theorem outR_len (p : Prg) (ls ss : List Int) : (outR p ls ss).length ≤ 400 := by
  unfold outR
  by_cases h : startB p ls ss = true
  · obtain ⟨s, hs, hr⟩ := runX_spec h
    have := hr.outs
    simp only [roundS, startQ, List.length_nil] at this
    omega
  · rw [runX_no (by simpa using h)]; simp
theorem afterR_size (p : Prg) (ls ss : List Int) : sizeQ (afterR p ls ss) ≤ 3000 := by
  unfold afterR
  by_cases h : startB p ls ss = true
  · have := sta_size (runX_ok h)
    exact this
  · rw [runX_no (by simpa using h)]; simp [sizeQ, sumC]
/-- An outcome and whether there is one. -/
def AnsOc (w : World) (b : Bool) (zs : List Int) (rr : Rz) (e : Ending) (w' : World) : Prop :=
  Below w.heap.size w w' ∧ ∃ os : Sl, e = .returned (.tuple #[.agg #[slV os, .int .i64 rr.1, .int .i64 rr.2], .bool b]) ∧ Own w' w.heap.size os.1 os.2.1 os.2.2 zs
theorem EnvMem.drop {w : World} {B : Nat} {er : ERow} {os : Sl} {q : Sta} (h : EnvMem w B er os q) : EnvMem w B er (none, 0, 0) ⟨q.vars, q.cells, []⟩ :=
  ⟨h.vars, h.cells, own_nil _ _, fun g _ e => by simp [slV, Value.ownBlock] at e, h.cv, fun i g hi _ e => by simp [slV, Value.ownBlock] at e, h.cc⟩
theorem EnvMem.base {w : World} {B B' : Nat} {er : ERow} {os : Sl} {q : Sta} (h : EnvMem w B er os q) (hB : B' ≤ B) : EnvMem w B' er os q := by
  refine ⟨h.vars.base hB, ⟨⟨h.cells.1.1, ?_⟩, h.cells.2.1, h.cells.2.2.1, fun i hi => (h.cells.2.2.2 i hi).base hB⟩, h.outs.base hB, h.vo, h.cv, h.co, h.cc⟩
  rcases h.cells.1.2 with hn | ⟨g, cap, cur, hv, hb, rest⟩
  · exact .inl hn
  · exact .inr ⟨g, cap, cur, hv, Nat.le_trans hB hb, rest⟩
/-- Two boxes of a call: the argument's, the answer's. -/
structure TwoB (w wi : World) (t0 : TypeId) (c0 : List Value) (t1 : TypeId) (c1 : List Value) : Prop where
  arg : Blk wi w.heap.size t0 c0
  res : Blk wi (w.heap.size + 1) t1 c1
  bel : Below w.heap.size w wi
theorem TwoB.below {w wi wj : World} {t0 t1 : TypeId} {c0 c1 : List Value} (h : TwoB w wi t0 c0 t1 c1) (hb : Below wi.heap.size wi wj) : TwoB w wj t0 c0 t1 c1 :=
  ⟨h.arg.below hb h.arg.lt, h.res.below hb h.res.lt, h.bel.trans (hb.mono h.bel.size)⟩
theorem twob_new (w : World) (t0 : TypeId) (c0 : List Value) (t1 : TypeId) (c1 : List Value) : TwoB w ((w.alloc (.cells c0.toArray t0)).alloc (.cells c1.toArray t1)) t0 c0 t1 c1 :=
  ⟨(Blk.new w _ _).alloc _, by simpa using Blk.new (w.alloc (.cells c0.toArray t0)) t1 c1, ((Below.refl _ _).alloc (Nat.le_refl _) _).alloc (by simp) _⟩
theorem TwoB.lt {w wi : World} {t0 t1 : TypeId} {c0 c1 : List Value} (h : TwoB w wi t0 c0 t1 c1) : w.heap.size + 1 < wi.heap.size := h.res.lt
/-- Three cells, two cells of the answer's box are written. -/
theorem below_set3 {w w' : World} (h : Below w.heap.size w w') (x y z : Value) : Below w.heap.size w (((w'.setCell ⟨w.heap.size + 1, 0, none⟩ x).setCell ⟨w.heap.size + 1, 1, none⟩ y).setCell ⟨w.heap.size + 1, 2, none⟩ z) :=
  below_set (below_set (below_set h (by omega) _) (by omega) _) (by omega) _
theorem below_set2 {w w' : World} (h : Below w.heap.size w w') (x y : Value) : Below w.heap.size w ((w'.setCell ⟨w.heap.size + 1, 0, none⟩ x).setCell ⟨w.heap.size + 1, 1, none⟩ y) :=
  below_set (below_set h (by omega) _) (by omega) _
end Go.Proofs.YtmooecbdpfhnlaaGreat
