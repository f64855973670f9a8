/- Joined texts of this proof (ImplNeed, ImplNeeded, SliceProg, AppendFresh, PushStm, Cmp), in build order. -/
import Derived.Test.YtbnpoliogldohaaGreatS29
import Derived.Test.YtbnpoliogldohaaGreatS3
import Derived.Test.YtbnpoliogldohaaGreatS2
import Derived.Test.YtbnpoliogldohaaGreatS13
import Derived.Test.YtbnpoliogldohaaGreatS14
import Derived.Test.YtbnpoliogldohaaGreatS1
import Derived.Test.YtbnpoliogldohaaGreatS11
/- The contracts of the program's neededHolders, numbersAmong, NeededIn. -/
namespace Go.Proofs.YtbnpoliogldohaaGreat
open Go.RowKit

/-- What neededHolders leaves. -/
def NeedSet (p : Prg) (H : List (Int × Int)) : Prop := InAll (cntB p) nm1 nm2 p.body H ∧ FreshQ p H []
set_option maxRecDepth 100000 in
set_option maxHeartbeats 3200000 in
theorem neededHolders_any (r : PRow) (p : Prg) (w : World) (h : ProgAt w r p) (hz : codeB p = 0) :
    Calls Tryz.prog 50 #[progV r] w fun e w' => ∃ g H, e = .returned (.map (some g)) ∧ w.heap.size ≤ g ∧ KSet holdV w' g H ∧ Hid (NeedSet p H) ∧ Below w.heap.size w w' := by
  have hmm := @run_makeMap Tryz.prog
  have HFR : Hid (∀ (b : Nat) (ks : List (Int × Int)) (w' : World), Below w.heap.size w w' → KSet holdV w' b ks → Calls Tryz.prog 101 #[progV r, .map (some b)] w' fun e w'' => ∃ g F, e = .returned (.map (some g)) ∧ w'.heap.size ≤ g ∧ KSet holdV w'' g F ∧ Hid (FreshQ p ks F) ∧ Below w'.heap.size w' w'') :=
    Lib.hid (fun b ks w' hw hk => freshIn_any r p b ks w' (h.below hw) hz hk)
  have HZ := Lib.hid hz
  obtain ⟨wd, ⟨a1, n1, c1⟩, ⟨a2, n2, c2⟩, tp, ⟨a3, n3, c3⟩, ⟨a4, n4, c4⟩, rows⟩ := r
  clear h hz
  show Calls Tryz.prog 50 #[.agg #[.int .i64 wd, .slice a1 n1 c1, .slice a2 n2 c2, .int .i64 tp, .slice a3 n3 c3, .slice a4 n4 c4]] w _
  obtain ⟨wa, HW⟩ : ∃ wa, Hid (wa = (w.alloc (.cells #[.int .i64 wd, .slice a1 n1 c1, .slice a2 n2 c2, .int .i64 tp, .slice a3 n3 c3, .slice a4 n4 c4] 28)).alloc (.map #[] 0)) := ⟨_, rfl⟩
  have FB0 : FB w wa [.int .i64 wd, .slice a1 n1 c1, .slice a2 n2 c2, .int .i64 tp, .slice a3 n3 c3, .slice a4 n4 c4] := by
    rw [HW.out]
    exact ⟨(Blk.new w _ _).alloc _, ((Below.refl _ _).alloc (Nat.le_refl _) _).alloc (by simp) _, by simp⟩
  have HK0 : Hid (KSet holdV wa (w.heap.size + 1) ([] : List (Int × Int))) := Lib.hid (by
    have := kset_made (κ := Int × Int) (kv := holdV) (w.alloc (.cells #[.int .i64 wd, .slice a1 n1 c1, .slice a2 n2 c2, .int .i64 tp, .slice a3 n3 c3, .slice a4 n4 c4] 28))
    rw [HW.out]; simpa using this)
  have HF0 := Lib.hid FB0
  have hfar0 := FB0.far
  clear FB0
  go_enter Tryz.func50, Tryz.ntmps50
  go_wp2_with fail
  rw [← HW.out]
  refine (HFR.out _ _ wa HF0.out.bel HK0.out).mono ?_
  rintro e w1 ⟨g, F, rfl, hg1, hk1, HQ1, hb1⟩
  have HF1 := Lib.hid (HF0.out.below hb1)
  have HK1 := Lib.hid (HK0.out.below hb1 HK0.out.lt)
  clear hb1
  go_wp2_with fail
  go_loopg [4] (gapN (allH p) []) (fun k f wr => ∃ (g : Nat) (H F : List (Int × Int)), gapN (allH p) H = k ∧ f = .map (some g) ∧ w.heap.size + 1 < g ∧ KSet holdV wr (w.heap.size + 1) H ∧ KSet holdV wr g F ∧ Hid (InAll (cntB p) nm1 nm2 p.body H) ∧ Hid (FreshQ p H F) ∧ FB w wr [.int .i64 wd, .slice a1 n1 c1, .slice a2 n2 c2, .int .i64 tp, .slice a3 n3 c3, .slice a4 n4 c4])
  case atStart => exact ⟨g, [], F, rfl, rfl, by omega, HK1.out, hk1, Lib.hid (inAll_nil _), HQ1, HF1.out⟩
  case round =>
    obtain ⟨g, H, F, hgp, rfl, hgf, hkH, hkF, HI, HQ, hfb⟩ := hrel
    have HKH := Lib.hid hkH
    have HFB := Lib.hid hfb
    have HGP := Lib.hid hgp
    have HNE := Lib.hid (show w.heap.size + 1 ≠ g by omega)
    clear hgp hkH
    by_cases hF : F = []
    · subst hF
      go_wp2_with (first
        | (at_len; refine wpList_len_set _ rfl _ _ rfl _ _ Tryz.underlying78 g [] rfl hkF ?_)
        | go_in)
      go_ret
      exact ⟨_, H, rfl, by omega, HKH.out, Lib.hid ⟨HI.out, HQ.out⟩, HFB.out.bel⟩
    · obtain ⟨x, F1, rfl⟩ : ∃ x F1, F = x :: F1 := by
        cases F with
        | nil => exact absurd rfl hF
        | cons x F1 => exact ⟨x, F1, rfl⟩
      clear hF
      obtain ⟨m, HM⟩ : ∃ m : Nat, Hid ((x :: F1).length = m + 1) := ⟨F1.length, rfl⟩
      clear hfb
      go_wp2_with (first
        | (at_len; refine wpList_len_set _ rfl _ _ rfl _ _ Tryz.underlying78 g (x :: F1) rfl hkF ?_; rw [HM.out])
        | fail)
      have hgl := hkF.lt
      refine (uniteH_any wr (w.heap.size + 1) g H (x :: F1) HKH.out hkF HNE.out).mono ?_
      rintro e w3 ⟨H2, rfl, hk3, he3, hg3⟩
      have HF3 := Lib.hid (HFB.out.put hg3 (by omega))
      have HI3 : Hid (InAll (cntB p) nm1 nm2 p.body H2) := Lib.hid (inAll_more (cntB_mono p) HI.out (fresh_of HZ.out HQ.out) he3)
      have HLT : Hid (gapN (allH p) H2 < gapN (allH p) H) := Lib.hid (by
        have hx := fresh_all HQ.out (x := x) (by simp)
        exact gap_less (fun z hz => (he3 z).2 (.inl hz)) hx.1 hx.2 ((he3 x).2 (.inr (by simp))))
      rw [HGP.out] at HLT
      have t0 := HF3.out.box.cell (j := 0) rfl
      have t1 := HF3.out.box.cell (j := 1) rfl
      have t2 := HF3.out.box.cell (j := 2) rfl
      have t3 := HF3.out.box.cell (j := 3) rfl
      have t4 := HF3.out.box.cell (j := 4) rfl
      have t5 := HF3.out.box.cell (j := 5) rfl
      clear hg3 he3
      go_wp2_with fail
      refine (HFR.out _ _ w3 HF3.out.bel hk3).mono ?_
      rintro e w4 ⟨g4, F4, rfl, hg4, hk4, HQ4, hb4⟩
      have HF4 := Lib.hid (HF3.out.below hb4)
      have HK4 := Lib.hid (hk3.below hb4 hk3.lt)
      have hfar := HF3.out.far
      clear hb4 t0 t1 t2 t3 t4 t5
      go_wp2
      go_roundg (gapN (allH p) H2)
      case rel => exact ⟨g4, H2, F4, rfl, rfl, by omega, HK4.out, hk4, HI3, HQ4, HF4.out⟩
      case measure => exact HLT.out
end Go.Proofs.YtbnpoliogldohaaGreat
/- The contract of the program's NeededIn. -/
namespace Go.Proofs.YtbnpoliogldohaaGreat
open Go.RowKit

/-- What NeededIn answers. -/
noncomputable def needV (p : Prg) : List Int := if codeB p = 0 then (needP p).1 else []
noncomputable def needA (p : Prg) : List Int := if codeB p = 0 then (needP p).2 else []
/-- Two lists of the call's own, apart. -/
def MadeTwo (w : World) (xs ys : List Int) (e : Ending) (w' : World) : Prop := Below w.heap.size w w' ∧ ∃ s t : Sl, e = .returned (.tuple #[slV s, slV t]) ∧ Own w' w.heap.size s.1 s.2.1 s.2.2 xs ∧ Own w' w.heap.size t.1 t.2.1 t.2.2 ys ∧ ∀ g, (slV s).ownBlock = some g → (slV t).ownBlock ≠ some g
end Go.Proofs.YtbnpoliogldohaaGreat
/- The slice of a program: which statements stay. -/
namespace Go.Proofs.YtbnpoliogldohaaGreat
open Go.RowKit

/-- Does a statement stay? -/
def keepB (p : Prg) (s : Stm) : Bool := if s.op = 0 then (decide (s.n ∈ (needP p).1) || mayStm p s) else if s.op = 1 then (decide (s.n ∈ (needP p).2) || mayStm p s) else true
/-- What Sliced answers. -/
noncomputable def sliceP (p : Prg) : Prg := if codeB p = 0 then { p with body := p.body.filter (keepB p) } else ⟨0, [], [], 0, [], []⟩
theorem keep_stays {p : Prg} (hz : codeB p = 0) {H : List (Int × Int)} (h : NeedSet p H) (s : Stm) : staysQ p s H = keepB p s := by
  have hn := need_is hz h.1 h.2
  have m0 : (0, s.n) ∈ H ↔ s.n ∈ (needP p).1 := by rw [← hn.1, (riseL_is _).2, mem_hv]
  have m1 : (1, s.n) ∈ H ↔ s.n ∈ (needP p).2 := by rw [← hn.2, (riseL_is _).2, mem_hv]
  unfold staysQ keepB
  rw [decide_eq_decide.2 m0, decide_eq_decide.2 m1]
theorem filter_yes {f : Stm → Bool} {ss : List Stm} {k : Nat} {s : Stm} (hk : k < ss.length) (hs : Hid (stAt ss k = s)) (hf : f s = true) : (ss.take (k + 1)).filter f = (ss.take k).filter f ++ [s] := by
  have e : ss.take (k + 1) = ss.take k ++ [s] := by
    rw [List.take_add_one, List.getElem?_eq_getElem hk, ← hs.out]
    simp [stAt, List.getD_eq_getElem?_getD, hk]
  rw [e, List.filter_append]; simp [hf]
theorem filter_no {f : Stm → Bool} {ss : List Stm} {k : Nat} {s : Stm} (hk : k < ss.length) (hs : Hid (stAt ss k = s)) (hf : f s = false) : (ss.take (k + 1)).filter f = (ss.take k).filter f := by
  have e : ss.take (k + 1) = ss.take k ++ [s] := by
    rw [List.take_add_one, List.getElem?_eq_getElem hk, ← hs.out]
    simp [stAt, List.getD_eq_getElem?_getD, hk]
  rw [e, List.filter_append]; simp [hf]
end Go.Proofs.YtbnpoliogldohaaGreat
/- 'append' onto an empty literal: whatever is taken over, nothing that was there turns. -/
namespace Go.Proofs.YtbnpoliogldohaaGreat
open Go.RowKit

theorem append_fresh (t e : TypeId) (z : Value) (size bytes : Nat) (ht : Tryz.prog.underlying t = some (.slice e)) (hinf : (Tryz.prog.info? e).map (fun i => (i.zero, i.size, i.bytes)) = some (some z, size, bytes)) (hzs : z.cells.size = size) (hsz : 0 < size)
    (w : World) (B g : Nat) (hown : w.ownsRow B e size (.slice (some ⟨g, 0, none⟩) 0 0) 0 []) (a2 : Option Addr) (m c2 : Nat) (news : List Value) (hl : news.length = m * size) (hsome : 0 < m → ∃ ad, a2 = some ad ∧ ∀ j u, news[j]? = some u → w.cell? (ad.add j) = some u)
    (h1 : ∀ u ∈ news, u.oneCell' = true) (h63 : m ≤ maxLen) (hbytes : m * bytes ≤ 140737488355328) (hB : B ≤ w.heap.size) (ty : TypeId) :
    ∃ a1 c1 w', (Builtin.append_ #[t, t] ty #[.slice (some ⟨g, 0, none⟩) 0 0, .slice a2 m c2]).run Tryz.prog w = .ok (.slice a1 m c1) w' ∧ w'.ownsRow B e size (.slice a1 m c1) m news ∧ Below w.heap.size w w' := by
  obtain ⟨i0, hi, hz0, hz1, hz2⟩ := info_parts hinf
  rcases Nat.eq_zero_or_pos m with h0 | h0
  · subst h0
    have hn : news = [] := List.eq_nil_of_length_eq_zero (by simpa using hl)
    subst hn
    refine ⟨some ⟨g, 0, none⟩, 0, w, ?_, hown, Below.refl _ _⟩
    cases a2 with
    | none => simp [Builtin.append_, run_underlying ht, sizeOf, typeInfo, hi, Builtin.lenOf, Builtin.firstCells, storeCells]
    | some ad => simp [Builtin.append_, run_underlying ht, sizeOf, typeInfo, hi, Builtin.lenOf, Builtin.firstCells, storeCells, loadCells, loadCellsFrom, Result.andThen]
  · obtain ⟨ad, rfl, hnews⟩ := hsome h0
    obtain ⟨v', w', hrun, r1, r2, _, r4⟩ := run_append_own_at (P := Tryz.prog) w B t ty e i0 z size bytes ht hi hz0 hz1 hz2 hzs hsz (.slice (some ⟨g, 0, none⟩) 0 0) 0 [] hown ad m c2 news hl hnews h1 (by omega) (by simpa using hbytes) hB
    have hr := run_append_grow (P := Tryz.prog) w t ty e i0 z ht hi hz0 ⟨g, 0, none⟩ 0 0 [] (by simp) (by intro j v hj; simp at hj) ad m c2 news (by rw [hl, hz1]) hnews (by omega) (by unfold maxLen at h63; omega) (growslice_fits (by omega) (by rw [hz2, Nat.zero_add]; exact hbytes))
    rw [hr] at hrun
    injection hrun with e1 e2
    subst e1 e2
    simp only [Nat.zero_add, List.nil_append] at r1 hr ⊢
    exact ⟨_, _, _, hr, r1, ⟨rfl, rfl, rfl, by simp, fun k hk => heap_alloc_old w.drew _ hk⟩⟩
/-- At the operation. -/
theorem wp_fresh {o : Oper} {a : Act} {w : World} {K : Act → World → Prop} {Q : Exit → Act → World → Prop} (s x : Operand) (t e : TypeId) (ho : o.op = .call { callee := .builtin .append, args := #[s, x], argTypes := #[t, t] }) (z : Value) (size bytes : Nat) (ht : Tryz.prog.underlying t = some (.slice e)) (hinf : (Tryz.prog.info? e).map (fun i => (i.zero, i.size, i.bytes)) = some (some z, size, bytes)) (hzs : z.cells.size = size) (hsz : 0 < size)
    (B g : Nat) (hs : a.eval s = .slice (some ⟨g, 0, none⟩) 0 0) (hown : w.ownsRow B e size (.slice (some ⟨g, 0, none⟩) 0 0) 0 []) (a2 : Option Addr) (m c2 : Nat) (hx : a.eval x = .slice a2 m c2) (news : List Value) (hl : news.length = m * size) (hsome : 0 < m → ∃ ad, a2 = some ad ∧ ∀ j u, news[j]? = some u → w.cell? (ad.add j) = some u)
    (h1 : ∀ u ∈ news, u.oneCell' = true) (h63 : m ≤ maxLen) (hbytes : m * bytes ≤ 140737488355328) (hB : B ≤ w.heap.size)
    (h : ∀ a1 c1 w', w'.ownsRow B e size (.slice a1 m c1) m news → Below w.heap.size w w' → K (a.put o.dst (.slice a1 m c1)) w') : o.wp Tryz.prog a w K Q := by
  obtain ⟨a1, c1, w', hr, r1, r2⟩ := append_fresh t e z size bytes ht hinf hzs hsz w B g hown a2 m c2 news hl hsome h1 h63 hbytes hB o.type
  unfold Oper.wp execOp
  simp only [ho, resolve, invoke, builtin, Sem.run_bind, Sem.run_pure, Result.andThen_ok, List.map_toArray, List.map_cons, List.map_nil, hs, hx, hr]
  exact h a1 c1 w' r1 r2
theorem wpList_fresh {ops : Array Oper} {rest : List Oper} {o : Oper} {a : Act} {w : World} {Q : Exit → Act → World → Prop} (hgd : o.guard = none) (s x : Operand) (t e : TypeId) (ho : o.op = .call { callee := .builtin .append, args := #[s, x], argTypes := #[t, t] }) (z : Value) (size bytes : Nat) (ht : Tryz.prog.underlying t = some (.slice e)) (hinf : (Tryz.prog.info? e).map (fun i => (i.zero, i.size, i.bytes)) = some (some z, size, bytes)) (hzs : z.cells.size = size) (hsz : 0 < size)
    (B g : Nat) (hs : a.eval s = .slice (some ⟨g, 0, none⟩) 0 0) (hown : w.ownsRow B e size (.slice (some ⟨g, 0, none⟩) 0 0) 0 []) (a2 : Option Addr) (m c2 : Nat) (hx : a.eval x = .slice a2 m c2) (news : List Value) (hl : news.length = m * size) (hsome : 0 < m → ∃ ad, a2 = some ad ∧ ∀ j u, news[j]? = some u → w.cell? (ad.add j) = some u)
    (h1 : ∀ u ∈ news, u.oneCell' = true) (h63 : m ≤ maxLen) (hbytes : m * bytes ≤ 140737488355328) (hB : B ≤ w.heap.size)
    (h : ∀ a1 c1 w', w'.ownsRow B e size (.slice a1 m c1) m news → Below w.heap.size w w' → wpList Tryz.prog ops Q rest (a.put o.dst (.slice a1 m c1)) w') : wpList Tryz.prog ops Q (o :: rest) a w :=
  wpList_plain hgd fun _ hK => wp_fresh s x t e ho z size bytes ht hinf hzs hsz B g hs hown a2 m c2 hx news hl hsome h1 h63 hbytes hB (fun a1 c1 w' r1 r2 => hK _ _ (h a1 c1 w' r1 r2))
/-- What Terms (Inputs) a slice bears. -/
theorem terms_some {w : World} {a : Option Addr} {n : Nat} {ts : List Tm} (h : Terms w a n ts) : 0 < n → ∃ ad, a = some ad ∧ ∀ j u, (flatV ts)[j]? = some u → w.cell? (ad.add j) = some u := fun hn => by
  obtain ⟨b, o, rfl, _⟩ := h.2.2.2 hn
  exact ⟨_, rfl, terms_news h⟩
theorem ints_some {w : World} {a : Option Addr} {n : Nat} {zs : List Int} (h : Ints w a n zs) : 0 < n → ∃ ad, a = some ad ∧ ∀ j u, (zs.map (Value.int .i64))[j]? = some u → w.cell? (ad.add j) = some u := fun hn => by
  obtain ⟨b, o, rfl, _, hc⟩ := h.2.2.2 hn
  refine ⟨_, rfl, fun j u hj => ?_⟩
  have hjl : j < zs.length := by have := (List.getElem?_eq_some_iff.1 hj).1; simpa using this
  rw [Go.WideShapes.add_plain, hc j (by have := h.1; omega), ← hj]
  simp [List.getD_eq_getElem?_getD, hjl]
end Go.Proofs.YtbnpoliogldohaaGreat
/- 'append' of one Stmt to a slice of Stmts of the call's own, no two slices in one block. -/
namespace Go.Proofs.YtbnpoliogldohaaGreat
open Go.RowKit

theorem ownStmts_nil (w : World) (B : Nat) : OwnStmts w B none 0 0 [] [] := ⟨World.ownsRow_nil _ _ _ _, by omega, rfl, fun i hi => absurd hi (by omega), List.nodup_nil⟩
theorem ownStmts_empty (w : World) (B : Nat) (hB : B ≤ w.heap.size) : OwnStmts (w.alloc (.cells #[] 74)) B (some ⟨w.heap.size, 0, none⟩) 0 0 [] [] :=
  ⟨World.ownsRow_lit w #[] 0 hB (by unfold maxLen; omega) rfl, by omega, rfl, fun i hi => absurd hi (by omega), List.nodup_nil⟩
theorem OwnStmts.blks_lt {w : World} {B : Nat} {a : Option Addr} {n c : Nat} {rs : List SRow} {ss : List Stm} (h : OwnStmts w B a n c rs ss) {g : Nat} (hg : g ∈ blks rs) : B ≤ g ∧ g < w.heap.size := by
  obtain ⟨i, hi, hm⟩ := blks_mem hg
  exact (h.2.2.2.1 i (by rw [← h.len]; exact hi)).blk hm
theorem blks_more {rs : List SRow} {r : SRow} {N : Nat} (hn : (blks rs).Nodup) (h : ∀ g ∈ blks rs, g < N) (h1 : ∀ g, (slV r.at_).ownBlock = some g → N ≤ g) (h2 : ∀ g, (slV r.exp).ownBlock = some g → N ≤ g) (hap : ∀ g, (slV r.at_).ownBlock = some g → (slV r.exp).ownBlock ≠ some g) : (blks (rs ++ [r])).Nodup := by
  have e : blks (rs ++ [r]) = blks rs ++ blksOf r := by simp [blks]
  rw [e]
  refine List.nodup_append.2 ⟨hn, ?_, fun x hx y hy => ?_⟩
  · refine List.nodup_append.2 ⟨?_, ?_, fun x hx y hy => ?_⟩
    · cases (slV r.at_).ownBlock <;> simp
    · cases (slV r.exp).ownBlock <;> simp
    · have h1 : (slV r.at_).ownBlock = some x := by simpa using hx
      have h2 : (slV r.exp).ownBlock = some y := by simpa using hy
      rintro rfl
      exact hap x h1 h2
  · have := h x hx
    rcases List.mem_append.1 hy with hy | hy
    · have := h1 y (by simpa using hy); omega
    · have := h2 y (by simpa using hy); omega
theorem OwnStmts.more {w w' : World} {B N : Nat} {a a1 : Option Addr} {n c c1 : Nat} {rs : List SRow} {ss : List Stm} {r : SRow} {s : Stm} (h : OwnStmts w B a n c rs ss) (hN : ∀ g ∈ blks rs, g < N) (hBN : B ≤ N) (hr : OwnStm w N r s) (hap : ∀ g, (slV r.at_).ownBlock = some g → (slV r.exp).ownBlock ≠ some g)
    (hn : n < 1048576) (r1 : w'.ownsRow B 74 4 (.slice a1 (n + 1) c1) (n + 1) (flatS rs ++ flatS [r])) (r2 : w.grownBy w' (Value.slice a n c).ownBlock) : OwnStmts w' B a1 (n + 1) c1 (rs ++ [r]) (ss ++ [s]) := by
  have hlr := h.len
  have hls := h.2.2.1
  refine ⟨by rw [flatS_append]; exact r1, by omega, by simp [hls], fun i hi => ?_, blks_more h.2.2.2.2 hN (fun g hg => ?_) (fun g hg => ?_) hap⟩
  · rcases Nat.lt_or_ge i n with hlt | hge
    · rw [srAt_append_left (by omega), stAt_append_left (by omega)]
      exact (h.2.2.2.1 i hlt).rowGrew h.1 r2
    · rw [srAt_append_right (by omega), stAt_append_right (by omega), hlr, hls]
      have : i - n = 0 := by omega
      rw [this]
      exact (hr.base hBN).rowGrew h.1 r2
  · exact (hr.2.2.2.2.1.block g hg).1
  · exact (hr.2.2.2.2.2.block g hg).1
theorem wpList_pushSt {ops : Array Oper} {rest : List Oper} {o : Oper} {ac : Act} {Q : Exit → Act → World → Prop} (w : World) (hgd : o.guard = none) (s x : Operand)
    (ho : o.op = .call { callee := .builtin .append, args := #[s, x], argTypes := #[26, 26] })
    (B N : Nat) (a : Option Addr) (n c : Nat) (rs : List SRow) (ss : List Stm) (hs : ac.eval s = .slice a n c) (hown : OwnStmts w B a n c rs ss) (hN : ∀ g ∈ blks rs, g < N) (hBN : B ≤ N)
    (g : Nat) (r : SRow) (st : Stm) (hr : OwnStm w N r st) (hap : ∀ g, (slV r.at_).ownBlock = some g → (slV r.exp).ownBlock ≠ some g) (hx : ac.eval x = .slice (some ⟨g, 0, none⟩) 1 1) (hc : Blk w g 74 (srowV r)) (hn : n < 1048576) (hB : B ≤ w.heap.size)
    (h : ∀ a1 c1 w', OwnStmts w' B a1 (n + 1) c1 (rs ++ [r]) (ss ++ [st]) → GrowsTo w (.slice a n c) w' (.slice a1 (n + 1) c1) → wpList Tryz.prog ops Q rest (ac.put o.dst (.slice a1 (n + 1) c1)) w') : wpList Tryz.prog ops Q (o :: rest) ac w := by
  refine wpList_pushG w hgd s x 26 74 (.agg #[.int .i64 0, .int .i64 0, .slice none 0 0, .slice none 0 0]) 4 64 ho Tryz.underlying26 info_stmt rfl (by omega) B a n c (flatS rs) hs hown.1 ⟨g, 0, none⟩ 1 1 (flatS [r]) hx (by rw [flatS_len]; rfl) (fun j u hj => ?_) (flatS_one [r]) (by unfold maxLen; omega) (by omega) hB ?_
  · rw [addr_add]
    refine hc.cell ?_
    simpa [flatS] using hj
  · intro a1 c1 w' r1 r2
    exact h a1 c1 w' (hown.more hN hBN hr hap hn r1 r2.1) r2
theorem step_pushSt {ops : Array Oper} {o : Oper} {ac : Act} {K : Act → World → Prop} {Q : Exit → Act → World → Prop} {E : Prop} (w : World) (hgd : o.guard = none) (s x : Operand)
    (ho : o.op = .call { callee := .builtin .append, args := #[s, x], argTypes := #[26, 26] })
    (B N : Nat) (a : Option Addr) (n c : Nat) (rs : List SRow) (ss : List Stm) (hs : ac.eval s = .slice a n c) (hown : OwnStmts w B a n c rs ss) (hN : ∀ g ∈ blks rs, g < N) (hBN : B ≤ N)
    (g : Nat) (r : SRow) (st : Stm) (hr : OwnStm w N r st) (hap : ∀ g, (slV r.at_).ownBlock = some g → (slV r.exp).ownBlock ≠ some g) (hx : ac.eval x = .slice (some ⟨g, 0, none⟩) 1 1) (hc : Blk w g 74 (srowV r)) (hn : n < 1048576) (hB : B ≤ w.heap.size)
    (h : ∀ a1 c1 w', OwnStmts w' B a1 (n + 1) c1 (rs ++ [r]) (ss ++ [st]) → GrowsTo w (.slice a n c) w' (.slice a1 (n + 1) c1) → K (ac.put o.dst (.slice a1 (n + 1) c1)) w') :
    if Region.wanted o (yielded ops ac.tmps) = true then Oper.wp Tryz.prog o ac w K Q else E := by
  refine step_pushG w hgd s x 26 74 (.agg #[.int .i64 0, .int .i64 0, .slice none 0 0, .slice none 0 0]) 4 64 ho Tryz.underlying26 info_stmt rfl (by omega) B a n c (flatS rs) hs hown.1 ⟨g, 0, none⟩ 1 1 (flatS [r]) hx (by rw [flatS_len]; rfl) (fun j u hj => ?_) (flatS_one [r]) (by omega) (by unfold maxLen; omega) (by omega) hB ?_
  · rw [addr_add]
    refine hc.cell ?_
    simpa [flatS] using hj
  · intro g1 c1 w' r1 r2
    exact h _ c1 w' (hown.more hN hBN hr hap hn r1 r2.1) r2
end Go.Proofs.YtbnpoliogldohaaGreat
/- The contracts of the functions that compare great numbers. -/
namespace Go.Proofs.YtbnpoliogldohaaGreat
open Go.RowKit

/-- -1, 0 or 1. -/
def cmpI (x y : Int) : Int := if x < y then -1 else if y < x then 1 else 0
/-! ### What the limbs say of the values -/
/-- From place k on they are alike. -/
def EqFrom (xs ys : List Int) (k : Nat) : Prop := ∀ i, k ≤ i → xs.getD i 0 = ys.getD i 0
/-- What CmpNat answers. -/
def cmpB (xs ys : List Int) : Int := if okB xs = true ∧ okB ys = true then cmpI (val xs) (val ys) else 2

end Go.Proofs.YtbnpoliogldohaaGreat
