/- Joined texts of this proof (InRound, MarkOnly, MarkProg, EachInput, CloneInts, ImplIn), in build order. -/
import Derived.Test.YtmooecbdpfhnlaaGreatK27
import Derived.StillTailTactics
import Derived.Test.YtmooecbdpfhnlaaGreatK5
import Derived.Test.YtmooecbdpfhnlaaGreatK1
import Derived.Test.YtmooecbdpfhnlaaGreatK17
import Derived.Test.YtmooecbdpfhnlaaGreatK25
import Derived.Test.YtmooecbdpfhnlaaGreatK26
import Derived.Test.YtmooecbdpfhnlaaGreatK18
import Derived.Test.YtmooecbdpfhnlaaGreatK24
import Derived.Test.YtmooecbdpfhnlaaGreatK22
/- A region that draws its order, within a round of a range over a function: its reads in the text's order, its last step behind them. -/
namespace Go.Proofs.YtmooecbdpfhnlaaGreat
open Go.RowKit Go.Shelf

section
variable {P : Program} {ops : Array Oper} {Q : Exit → Act → World → Prop}
theorem opIn_of {i l n : Nat} {K K' : Act → World → Prop} (hd : ∀ (j : Nat) (o : Oper), ops[j]? = some o → ∀ c, o.op ≠ .defer c) (hQ : ¬ LetsOut Q) (hK : ∀ a w, K a w → K' a w) {a : Act} {w : World} (h : wpOp P ops Q i K a w) :
    wpOpIn (Fence.wide.inRound l) n P ops Q i K' a w := by
  unfold wpOp at h
  unfold wpOpIn
  cases ho : ops[i]? with
  | none => simp only [ho] at h ⊢; exact hK _ _ h
  | some o =>
    simp only [ho] at h ⊢
    by_cases hw : Region.wanted o (yielded ops a.tmps) = true
    · rw [if_pos hw] at h ⊢
      rcases h with h | ⟨_, h⟩
      case inr => exact absurd h hQ
      refine ⟨fun _ _ => trivial, ?_⟩
      rw [Oper.semAt_eq _ _ _ (hd i o ho)]
      unfold Oper.wp at h
      generalize (execOp a.eval o).run P w = r at h ⊢
      cases r with
      | ok nx w' =>
        cases nx with
        | value v => exact hK _ _ h
        | skip => exact hK _ _ h
        | defer d => exact hK _ _ h
        | enter f args =>
          refine ⟨fun e => by simp [Fence.wide] at e, CallsIn.inRound l (callsIn_wide.2 (Calls.mono h fun e w'' he => ?_))⟩
          cases e with
          | returned v => exact hK _ _ he
          | panicked c => exact he
          | outgrown => exact he
        | row row args =>
          exact ⟨fun e => by simp [Fence.wide] at e, fun c cs _ => let ⟨v, w'', hr, hs⟩ := h c cs; ⟨v, w'', hK _ _ hr, stepsIn_wide.2 hs⟩⟩
        | _ => exact h.elim
      | halt hl w' =>
        cases hl with
        | panic v => exact h
        | _ => exact h.elim
    · rw [if_neg hw] at h ⊢
      exact ⟨fun _ _ => trivial, hK _ _ h⟩
theorem anyIn_of {l n : Nat} {md : Region.Mode} (hd : ∀ (j : Nat) (o : Oper), ops[j]? = some o → ∀ c, o.op ≠ .defer c) (hQ : ¬ LetsOut Q) : ∀ (fuel : Nat) (listed : Array Bool) (a : Act) (w : World), wpAny P md ops Q fuel listed a w → wpAnyIn (Fence.wide.inRound l) n P md ops Q fuel listed a w
  | 0, _, _, _, h => h
  | fuel + 1, _, _, _, h => ⟨h.1, fun i hi => opIn_of hd hQ (fun a w => anyIn_of hd hQ fuel _ a w) (h.2 i hi)⟩
end
end Go.Proofs.YtmooecbdpfhnlaaGreat
/- The marks on slices of Terms, of Inputs, of numbers, by themselves (written by tools/gen_markonly.py). -/
namespace Go.Proofs.YtmooecbdpfhnlaaGreat
open Go.RowKit

end Go.Proofs.YtmooecbdpfhnlaaGreat
/- The laws' own marks on programs (markStmtS, markProg): only a program's own blocks turn. -/
namespace Go.Proofs.YtmooecbdpfhnlaaGreat
open Go.RowKit

/-- A body under way: its cells rs', each slice of it where rs has it. -/
structure MarkRel (w wr : World) (lo hi B : Nat) (a : Option Addr) (n c : Nat) (rs rs' : List SRow) : Prop where
  row : wr.ownsRow B 82 4 (.slice a n c) n (flatS rs')
  same : ∀ i, i < n → (srAt rs' i).at_ = (srAt rs i).at_ ∧ (srAt rs' i).exp = (srAt rs i).exp
  one : ∀ i, i < n → ∃ ts, OwnT wr B (srAt rs i).at_.1 (srAt rs i).at_.2.1 (srAt rs i).at_.2.2 ts
  two : ∀ i, i < n → ∃ us, OwnT wr B (srAt rs i).exp.1 (srAt rs i).exp.2.1 (srAt rs i).exp.2.2 us
  span : Span lo hi w wr
theorem at_mem {r : SRow} {g : Nat} (h : (slV r.at_).ownBlock = some g) : g ∈ blksOf r := by simp [blksOf, h]
theorem exp_mem {r : SRow} {g : Nat} (h : (slV r.exp).ownBlock = some g) : g ∈ blksOf r := by simp [blksOf, h]
section
variable {w wr wx : World} {lo hi B n c g k : Nat} {a : Option Addr} {rs rs' : List SRow}
theorem MarkRel.len (h : MarkRel w wr lo hi B a n c rs rs') : rs'.length = n := by have := h.row.1; rw [flatS_len] at this; omega
/-- A row's first slice, its second one is marked. -/
theorem MarkRel.at_ (h : MarkRel w wr lo hi B a n c rs rs') (hk : k < n) (hl : rs.length = n) (hn : (blks rs).Nodup) (hin : ∀ g ∈ blks rs, lo ≤ g ∧ g < hi) {ts : List Tm} (ho : OwnT wx B (srAt rs k).at_.1 (srAt rs k).at_.2.1 (srAt rs k).at_.2.2 ts) (hg : wr.grownBy wx (slV (srAt rs k).at_).ownBlock) : MarkRel w wx lo hi B a n c rs rs' := by
  have hm : ∀ i, i < n → ∀ g, g ∈ blksOf (srAt rs i) → g ∈ blks rs := fun i hi g hg => List.mem_flatMap.2 ⟨srAt rs i, by simp [srAt, List.getD_eq_getElem?_getD, hl, hi], hg⟩
  obtain ⟨t0, h0⟩ := h.one k hk
  refine ⟨h.row.kept hg ?_, h.same, fun i hi => ?_, fun i hi => ?_, h.span.trans (Span.of_grown hg (fun g e => hin g (hm k hk g (at_mem e))))⟩
  · cases hv : (Value.slice a n c).ownBlock with
    | none => exact .inl rfl
    | some g => exact .inr fun e => own_kinds h.row h0.1 (by decide) hv e.symm
  · by_cases e : i = k
    · subst e; exact ⟨ts, ho⟩
    · obtain ⟨us, hu⟩ := h.one i hi
      exact ⟨us, hu.apart hg (fun g hgg e' => blks_apart hn (by omega) (by omega) e (at_mem hgg) (at_mem e'))⟩
  · obtain ⟨us, hu⟩ := h.two i hi
    refine ⟨us, hu.apart hg (fun g hgg e' => ?_)⟩
    by_cases e : i = k
    · subst e; exact blks_self hn (by omega) e' hgg
    · exact blks_apart hn (by omega) (by omega) e (exp_mem hgg) (at_mem e')
theorem MarkRel.exp (h : MarkRel w wr lo hi B a n c rs rs') (hk : k < n) (hl : rs.length = n) (hn : (blks rs).Nodup) (hin : ∀ g ∈ blks rs, lo ≤ g ∧ g < hi) {ts : List Tm} (ho : OwnT wx B (srAt rs k).exp.1 (srAt rs k).exp.2.1 (srAt rs k).exp.2.2 ts) (hg : wr.grownBy wx (slV (srAt rs k).exp).ownBlock) : MarkRel w wx lo hi B a n c rs rs' := by
  have hm : ∀ i, i < n → ∀ g, g ∈ blksOf (srAt rs i) → g ∈ blks rs := fun i hi g hg => List.mem_flatMap.2 ⟨srAt rs i, by simp [srAt, List.getD_eq_getElem?_getD, hl, hi], hg⟩
  obtain ⟨t0, h0⟩ := h.two k hk
  refine ⟨h.row.kept hg ?_, h.same, fun i hi => ?_, fun i hi => ?_, h.span.trans (Span.of_grown hg (fun g e => hin g (hm k hk g (exp_mem e))))⟩
  · cases hv : (Value.slice a n c).ownBlock with
    | none => exact .inl rfl
    | some g => exact .inr fun e => own_kinds h.row h0.1 (by decide) hv e.symm
  · obtain ⟨us, hu⟩ := h.one i hi
    refine ⟨us, hu.apart hg (fun g hgg e' => ?_)⟩
    by_cases e : i = k
    · subst e; exact blks_self hn (by omega) hgg e'
    · exact blks_apart hn (by omega) (by omega) e (at_mem hgg) (exp_mem e')
  · by_cases e : i = k
    · subst e; exact ⟨ts, ho⟩
    · obtain ⟨us, hu⟩ := h.two i hi
      exact ⟨us, hu.apart hg (fun g hgg e' => blks_apart hn (by omega) (by omega) e (exp_mem hgg) (exp_mem e'))⟩
end
/-- What marks leave. -/
def Marked (w : World) (lo hi top : Nat) (e : Ending) (w' : World) : Prop := ∃ m : Nat, e = .returned (.int .i64 (m : Int)) ∧ m ≤ top ∧ Span lo hi w w'
theorem Own.only {w w' : World} {B n c lo hi : Nat} {a : Option Addr} {zs : List Int} (h : Own w B a n c zs) (hs : Span lo hi w w') (hv : ∀ g, (Value.slice a n c).ownBlock = some g → g < lo ∨ hi ≤ g) : Own w' B a n c zs := ⟨ownsRow_span h.1 hs hv, h.2⟩
theorem OwnI.kept {w w' : World} {B n c : Nat} {a : Option Addr} {ts : List Tm} {row : Option Nat} (h : OwnI w B a n c ts) (hg : w.grownBy w' row) (hr : ∀ g, (Value.slice a n c).ownBlock = some g → row ≠ some g) : OwnI w' B a n c ts := h.apart hg hr
theorem OwnStmts.kept {w w' : World} {B n c : Nat} {a : Option Addr} {rs : List SRow} {ss : List Stm} {row : Option Nat} (h : OwnStmts w B a n c rs ss) (hg : w.grownBy w' row) (hr : ∀ g, (Value.slice a n c).ownBlock = some g → row ≠ some g) (hi : ∀ i, i < n → (∀ g, (slV (srAt rs i).at_).ownBlock = some g → row ≠ some g) ∧ ∀ g, (slV (srAt rs i).exp).ownBlock = some g → row ≠ some g) : OwnStmts w' B a n c rs ss := by
  refine ⟨h.1.kept hg ?_, h.2.1, h.2.2.1, fun i hi' => ?_, h.2.2.2.2⟩
  · cases hv : (Value.slice a n c).ownBlock with
    | none => exact .inl rfl
    | some g => exact .inr fun e => hr g hv e.symm
  · obtain ⟨h1, h2, h3, h4, h5, h6⟩ := h.2.2.2.1 i hi'
    exact ⟨h1, h2, h3, h4, h5.apart hg (hi i hi').1, h6.apart hg (hi i hi').2⟩
end Go.Proofs.YtmooecbdpfhnlaaGreat
/- The contracts of the program's countOn and eachInput. -/
namespace Go.Proofs.YtmooecbdpfhnlaaGreat
open Go.RowKit Go.Shelf
attribute [local go_sem] Oper.semAt_some

theorem OwnI.only {w w' : World} {B n c lo hi : Nat} {a : Option Addr} {ts : List Tm} (h : OwnI w B a n c ts) (hs : Span lo hi w w') (hv : ∀ g, (Value.slice a n c).ownBlock = some g → g < lo ∨ hi ≤ g) : OwnI w' B a n c ts := ⟨ownsRow_span h.1 hs hv, h.2⟩
theorem own_at {w : World} {B : Nat} {a : Option Addr} {n c k : Nat} {zs : List Int} (h : Own w B a n c zs) (hk : k < zs.length) : ∃ gv, a = some ⟨gv, 0, none⟩ ∧ w.cell? ⟨gv, k, none⟩ = some (.int .i64 (zs.getD k 0)) ∧ w.frozen? ⟨gv, k, none⟩ = false ∧ gv < w.heap.size := by
  have hl := h.len
  rcases h.1.2 with ⟨_, h0⟩ | ⟨gv, cap, cur, e, hb, hh, hr⟩
  · omega
  · injection e with e1 e2 e3
    subst e1 e3
    exact ⟨gv, rfl, own_cell h.1 (by omega), h.1.frozenAt k, (Array.getElem?_eq_some_iff.1 hh).1⟩
theorem Span.drewN {lo hi : Nat} (W : World) (q : Nat) : Span lo hi W (W.drewN q) := ⟨rfl, rfl, rfl, Nat.le_refl _, fun _ _ _ => rfl⟩
set_option maxRecDepth 20000 in
set_option maxHeartbeats 1600000 in
theorem countOn_any (ai av : Option Addr) (L ci cv : Nat) (ts : List Tm) (zs : List Int) (w : World) (B0 B : Nat) (h : OwnI w B0 ai L ci ts) (hb : ∀ g, (Value.slice ai L ci).ownBlock = some g → g < B) (hv : Own w B av L cv zs) (hz : ∀ z ∈ zs, 0 ≤ z ∧ z ≤ 255) (M : Nat) (hM : ∀ g, (Value.slice av L cv).ownBlock = some g → g < M) :
    Calls Tryz.prog 103 #[.slice ai L ci, .slice av L cv] w fun e w' => e = .returned (.bool (nextD (maxesL ts) zs).2) ∧ Own w' B av L cv (nextD (maxesL ts) zs).1 ∧ Span B M w w' := by
  have HI := Lib.hid h
  have HBB := Lib.hid hb
  have hzl := hv.len
  have htl := h.len
  have HZI : Hid (∀ k, k < L → 0 ≤ zs.getD k 0 ∧ zs.getD k 0 ≤ 255) := Lib.hid (fun k hk => hz _ (getD_mem (by omega)))
  obtain ⟨ms, HMS⟩ : ∃ ms, Hid (maxesL ts = ms) := ⟨_, Lib.hid rfl⟩
  have HML : Hid (ms.length = L) := Lib.hid (by rw [← HMS.out, maxesL_len, htl])
  have HGET : Hid (∀ k x y, k < L → Hid (tmAt ts k = (x, y)) → ms.getD k 0 = x) := Lib.hid (fun k x y hk hh => by rw [← HMS.out, maxesL_getD (by omega), hh.out])
  have HZL := Lib.hid hzl
  have hL : L ≤ 1048576 := h.2.1
  rw [HMS.out]
  have HZZ : Hid (∀ z ∈ zs, In64 z) := Lib.hid hv.2.2
  clear h hb hz htl hzl HMS
  go_enter Tryz.func103, Tryz.ntmps103
  go_wp2
  go_loopw [9] (fun i wr => ∃ k : Nat, k ≤ L ∧ i = .int .i64 (k : Int) ∧ Own wr B av L cv (List.replicate k 0 ++ zs.drop k) ∧ Span B M w wr ∧ nextD ms zs = (List.replicate k 0 ++ (nextD (ms.drop k) (zs.drop k)).1, (nextD (ms.drop k) (zs.drop k)).2)) (fun i _ => L - (intOf i).toNat)
  case atStart => exact ⟨0, Nat.zero_le _, rfl, hv, Span.refl _ _ _, rfl⟩
  case round =>
    obtain ⟨k, hk, rfl, ho, hs, hnx⟩ := hrel
    by_cases hlt : k < L
    · obtain ⟨bi, oi, x, y, rfl, hbi, htm, hi1, hi2, hc1, hc2⟩ := (HI.out.only hs (fun g hg => .inl (HBB.out g hg))).terms.at_ hlt
      have hx := HGET.out k x y hlt htm
      obtain ⟨gv, rfl, hcv, hfv, hgv⟩ := own_at (k := k) ho (by rw [ho.len]; exact hlt)
      rw [repl_get] at hcv
      obtain ⟨z1, z2⟩ := HZI.out k hlt
      have hst := nextD_step (ms := ms) (zs := zs) (i := k) (by rw [HML.out]; exact hlt) (by rw [HML.out, HZL.out])
      rw [hx] at hst
      have hset := repl_set (zs := zs) (i := k) (by rw [HZL.out]; exact hlt)
      obtain ⟨z, HZ⟩ : ∃ z, Hid (zs.getD k 0 = z) := ⟨_, rfl⟩
      rw [HZ.out] at hcv z1 z2 hst
      obtain ⟨wb, HWB⟩ : ∃ wb, Hid (wb = wr.alloc (.cells #[.int .i64 x, .int .i64 y] 41)) := ⟨_, rfl⟩
      have hgB : B ≤ gv ∧ gv < wr.heap.size := ho.block gv rfl
      have hgw : gv < M := hM gv rfl
      have hob : Own wb B (some ⟨gv, 0, none⟩) L cv (List.replicate k 0 ++ zs.drop k) := by rw [HWB.out]; exact ho.alloc _
      have hsb : Span B M w wb := by rw [HWB.out]; exact hs.trans (Span.of_below ((Below.refl _ _).alloc (Nat.le_refl _) _))
      have bz := own_cell hob.1 hlt
      rw [repl_get, HZ.out, HWB.out] at bz
      have HN1 : Hid (∀ q, Own ((wb.drewN q).setCell ⟨gv, k, none⟩ (.int .i64 (z + 1))) B (some ⟨gv, 0, none⟩) L cv (List.replicate k 0 ++ ((z + 1) :: zs.drop (k + 1)))) := Lib.hid (fun q => by
        have := own_put (hob.drewN q).1 k (z + 1)
        rw [hset] at this
        exact ⟨this, hL, fun y hq => by
          simp only [List.mem_append, List.mem_cons] at hq
          rcases hq with hq | rfl | hq
          · rw [List.eq_of_mem_replicate hq]; exact ⟨by decide, by decide⟩
          · exact ⟨by omega, by omega⟩
          · exact HZZ.out y (List.mem_of_mem_drop hq)⟩)
      have HN2 : Hid (∀ q, Own ((wb.drewN q).setCell ⟨gv, k, none⟩ (.int .i64 0)) B (some ⟨gv, 0, none⟩) L cv (List.replicate (k + 1) 0 ++ zs.drop (k + 1))) := Lib.hid (fun q => by
        have := own_put (hob.drewN q).1 k 0
        rw [hset, repl_more] at this
        exact ⟨this, hL, fun y hq => by
          simp only [List.mem_append] at hq
          rcases hq with hq | hq
          · rw [List.eq_of_mem_replicate hq]; exact ⟨by decide, by decide⟩
          · exact HZZ.out y (List.mem_of_mem_drop hq)⟩)
      have HS1 : Hid (∀ q v, Span B M w ((wb.drewN q).setCell ⟨gv, k, none⟩ v)) := Lib.hid (fun q v => (hsb.trans (Span.drewN _ q)).trans (Span.set _ _ hgB.1 hgw))
      rw [HWB.out] at HN1 HN2 HS1
      have HNX := Lib.hid hnx
      have HST := Lib.hid hst
      clear hx htm hset hob hsb ho hs hnx hst HZ
      go_wp2
      have bx := (Blk.new wr 41 [.int .i64 x, .int .i64 y]).cell (j := 0) rfl
      go_quiet (fail)
      go_wp2
      · have hzx : z < x := by assumption
        go_ret
        rw [HNX.out, HST.out, if_pos hzx]
        exact ⟨rfl, HN1.out _, HS1.out _ _⟩
      · have hzx : ¬ z < x := by omega
        go_roundw
        case rel =>
          refine ⟨k + 1, by omega, by go_num, HN2.out _, HS1.out _ _, ?_⟩
          rw [HNX.out, HST.out, if_neg hzx]
          simp only []
          rw [List.replicate_succ', List.append_assoc]
          rfl
        case measure => simp [intOf]; omega
    · obtain rfl : k = L := by omega
      have hdz : zs.drop k = [] := by rw [List.drop_eq_nil_iff, HZL.out]; exact Nat.le_refl _
      have hdm : ms.drop k = [] := by rw [List.drop_eq_nil_iff, HML.out]; exact Nat.le_refl _
      rw [hdz, hdm, show nextD ([] : List Int) [] = ([], false) from rfl] at hnx
      rw [hdz] at ho
      go_wp2
      rw [List.append_nil] at ho
      go_ret
      exact ⟨rfl, ho, hs⟩
/-- What yield is handed: the number, and the values' slice. -/
structure EIn where
  k : Nat
  a : Option Addr
  c : Nat
def encE (L : Nat) (x : EIn) : Array Value := #[.int .i64 (x.k : Int), .slice x.a L x.c]
/-- What holds of it: the values are those of the number. -/
def infoE (ms : List Int) (L lo hi : Nat) (x : EIn) (W : World) : Prop := Own W lo x.a L x.c (digs ms x.k) ∧ (∀ g, (Value.slice x.a L x.c).ownBlock = some g → g < hi) ∧ (x.k : Int) < prodL ms ∧ ∃ g, x.a = some ⟨g, 0, none⟩
theorem infoE_stay {ms : List Int} {L lo hi : Nat} {x : EIn} {A B : World} (h : infoE ms L lo hi x A) (hs : Stay lo hi A B) : infoE ms L lo hi x B := by
  refine ⟨⟨⟨h.1.1.1, ?_⟩, h.1.2⟩, h.2⟩
  rcases h.1.1.2 with hn | ⟨g, cap, cur, e, hb, hg, r⟩
  · exact .inl hn
  · exact .inr ⟨g, cap, cur, e, hb, (hs g hb (h.2.1 g (by rw [e]; rfl))).trans hg, r⟩
theorem OwnI.stay {lo hi B n c : Nat} {a : Option Addr} {ts : List Tm} {A C : World} (h : OwnI A B a n c ts) (hB : lo ≤ B) (hv : ∀ g, (Value.slice a n c).ownBlock = some g → g < hi) (hs : Stay lo hi A C) : OwnI C B a n c ts := by
  refine ⟨⟨h.1.1, ?_⟩, h.2⟩
  rcases h.1.2 with hn | ⟨g, cap, cur, e, hb, hg, r⟩
  · exact .inl hn
  · exact .inr ⟨g, cap, cur, e, hb, (hs g (by omega) (hv g (by rw [e]; rfl))).trans hg, r⟩
theorem Own.stay {lo hi B n c : Nat} {a : Option Addr} {zs : List Int} {A C : World} (h : Own A B a n c zs) (hB : lo ≤ B) (hv : ∀ g, (Value.slice a n c).ownBlock = some g → g < hi) (hs : Stay lo hi A C) : Own C B a n c zs := by
  refine ⟨⟨h.1.1, ?_⟩, h.2⟩
  rcases h.1.2 with hn | ⟨g, cap, cur, e, hb, hg, r⟩
  · exact .inl hn
  · exact .inr ⟨g, cap, cur, e, hb, (hs g (by omega) (hv g (by rw [e]; rfl))).trans hg, r⟩
set_option maxRecDepth 100000 in
set_option maxHeartbeats 2000000 in
theorem eachInput1_in (n : Nat) (hn : 1 ≤ n) (l Bs : Nat) (r : PRow) (p : Prg) (hlen : p.lows.length + p.secrets.length ≤ 6) (hmx : ∀ m ∈ maxesP p, 0 ≤ m ∧ m ≤ 255) (J Jx : Nat → List EIn → World → Prop) (W : World)
    (hBs : Blk W Bs 31 [.int .i64 r.width, slV r.lows, slV r.secrets, .int .i64 r.temps, slV r.arrays, slV r.body]) (hp : ProgAt W r p)
    (hJ : ∀ m s A B, J m s A → Span W.heap.size m A B → J m s B)
    (h0 : ∀ W', Below W.heap.size W W' → J W'.heap.size [] W')
    (hY : ∀ m pre x W1, J m pre W1 → infoE (maxesP p) (maxesP p).length W.heap.size m x W1 → YieldAt Fence.wide (n - 1) Tryz.prog l (encE (maxesP p).length x) W1 fun e W' =>
      (e = .returned (.bool true) ∧ J m (pre ++ [x]) W' ∧ Stay W.heap.size m W1 W' ∧ W1.heap.size ≤ W'.heap.size) ∨ (e = .returned (.bool false) ∧ Jx m (pre ++ [x]) W')) :
    CallsIn Fence.wide n Tryz.prog 101 #[.func (.yield l) #[] #[], .pointer (some ⟨Bs, 0, none⟩)] W fun e W' => (∃ v, e = .returned v) ∧
      ((∃ m xs, (xs.map EIn.k = List.range (prodL (maxesP p)).toNat) ∧ J m xs W') ∨ (∃ m pre, (∃ k, k ≤ (prodL (maxesP p)).toNat ∧ pre.map EIn.k = List.range k) ∧ Jx m pre W')) := by
  have HM : Hid (∀ w', Below W.heap.size W w' → Calls Tryz.prog 102 #[progV r] w' (MadeI w' (p.lows ++ p.secrets))) := Lib.hid (fun w' hw => inputsOf_any r p w' (hp.below hw) (by omega))
  have HX := Lib.hid hmx
  have HY := Lib.hid hY
  have HJ := Lib.hid hJ
  have H0 := Lib.hid h0
  have HTL : Hid ((p.lows ++ p.secrets).length = (maxesP p).length) := Lib.hid (by rw [maxesP_len]; simp)
  have HMS : Hid (maxesL (p.lows ++ p.secrets) = maxesP p) := Lib.hid rfl
  have hL6 : (maxesP p).length ≤ 6 := by rw [maxesP_len]; exact hlen
  clear hp hlen hmx hJ h0 hY
  obtain ⟨ts, HTS⟩ : ∃ ts, Hid (p.lows ++ p.secrets = ts) := ⟨_, Lib.hid rfl⟩
  rw [HTS.out] at HM HTL HMS
  obtain ⟨ms, HMM⟩ : ∃ ms, Hid (maxesP p = ms) := ⟨_, Lib.hid rfl⟩
  rw [HMM.out] at HX HY HTL HMS hL6 ⊢
  obtain ⟨L, HLE⟩ : ∃ L, Hid (ms.length = L) := ⟨_, rfl⟩
  rw [HLE.out] at HY HTL hL6
  clear HTS HMM
  have hpos := prodL_pos (fun m hm => (HX.out m hm).1)
  have hCb := prodL_small HX.out (by rw [HLE.out]; exact hL6)
  obtain ⟨C, HC⟩ : ∃ C : Nat, Hid (prodL ms = (C : Int)) := ⟨(prodL ms).toNat, Lib.hid (by omega)⟩
  have hCN : (prodL ms).toNat = C := by rw [HC.out]; rfl
  rw [hCN]
  rw [HC.out] at hpos hCb
  obtain ⟨wd, ⟨a1, n1, c1⟩, ⟨a2, n2, c2⟩, tp, ⟨a3, n3, c3⟩, ⟨a4, n4, c4⟩, rows⟩ := r
  simp only [progV, slV] at HM hBs
  have t0 := hBs.cell (j := 0) rfl
  have t1 := hBs.cell (j := 1) rfl
  have t2 := hBs.cell (j := 2) rfl
  have t3 := hBs.cell (j := 3) rfl
  have t4 := hBs.cell (j := 4) rfl
  have t5 := hBs.cell (j := 5) rfl
  refine callsIn_of_wp Tryz.func101 rfl trivial ?_ rfl
  simp only [Tryz.ntmps101, List.size_toArray, List.length_cons, List.length_nil, Nat.reduceAdd, Nat.reduceSub, Array.replicate_succ, Array.replicate_zero, List.push_toArray, List.append_toArray, List.nil_append, List.cons_append]
  gi_wp2_with fail
  refine ⟨trivial, (callsIn_wide.2 (HM.out _ (Below.refl _ _))).mono ?_⟩
  rintro e w2 ⟨ia, im, ic, rfl, hoi, hb2⟩
  have him : L = im := by rw [← hoi.len, HTL.out]
  subst him
  have hmk : ∀ w, (Instr.makeSlice 28 (.int .i64 (L : Int)) (.int .i64 (L : Int))).run Tryz.prog w = .ok (.slice (some ⟨w.heap.size, 0, none⟩) L L) (w.alloc (.cells (madeCells #[.int .i64 0] L) 2)) := fun w => make_row L (by omega) w
  clear t0 t1 t2 t3 t4 t5 hBs
  gi_wp2_with fail
  obtain ⟨w3, HW3⟩ : ∃ w3, Hid (w3 = w2.alloc (.cells (madeCells #[.int .i64 0] L) 2)) := ⟨_, rfl⟩
  have hb3 : Below w2.heap.size w2 w3 := by rw [HW3.out]; exact (Below.refl _ _).alloc (Nat.le_refl _) _
  have hov : Own w3 w2.heap.size (some ⟨w2.heap.size, 0, none⟩) L L (digs ms 0) := by rw [HW3.out, digs_zero (fun m hm => (HX.out m hm).1), HLE.out]; exact own_made w2 L (by omega)
  have hbw : Below W.heap.size W w3 := hb2.trans (hb3.mono hb2.size)
  have hvm : w2.heap.size < w3.heap.size := by rw [HW3.out]; simp
  have HIB := Lib.hid (fun g (hg : (Value.slice ia L ic).ownBlock = some g) => (hoi.block g hg).2)
  have hoi := hoi.below hb3
  have hws : W.heap.size ≤ w2.heap.size := hb2.size
  have hj := H0.out w3 hbw
  rw [← HW3.out]
  obtain ⟨bv, HBV⟩ : ∃ bv, Hid (w2.heap.size = bv) := ⟨_, rfl⟩
  rw [HBV.out] at hov hvm hws HIB ⊢
  obtain ⟨mm, HMM⟩ : ∃ mm, Hid (w3.heap.size = mm) := ⟨_, rfl⟩
  rw [HMM.out] at hj hvm
  clear HW3 hb2 hb3 hbw HBV HM H0 hmk
  have HBM : Hid (∀ g, (Value.slice (some ⟨bv, 0, none⟩) L L).ownBlock = some g → g < mm) := Lib.hid (fun g hg => by have hg' : some bv = some g := hg; injection hg' with hg'; omega)
  have HIM : Hid (∀ g, (Value.slice ia L ic).ownBlock = some g → g < mm) := Lib.hid (fun g hg => by have := HIB.out g hg; omega)
  gi_loopw [5] (fun i wr => ∃ (k : Nat) (pre : List EIn), k < C ∧ i = .int .i64 (k : Int) ∧ pre.map EIn.k = List.range k ∧ J mm pre wr ∧ Own wr bv (some ⟨bv, 0, none⟩) L L (digs ms (k : Int)) ∧ OwnI wr W.heap.size ia L ic ts) (fun i _ => C - (intOf i).toNat)
  case atStart => exact ⟨0, [], by omega, rfl, rfl, hj, hov, hoi⟩
  case round =>
    obtain ⟨k, pre, hk, rfl, hpre, hJs, ho, hi⟩ := hrel
    obtain ⟨fn, tmps, assign, body, hy, hR⟩ := HY.out mm pre ⟨k, some ⟨bv, 0, none⟩, L⟩ wr hJs ⟨ho.base hws, HBM.out, by rw [HC.out]; exact Int.ofNat_lt.2 hk, bv, rfl⟩
    simp only [encE] at hy
    have hpr : (pre ++ [(⟨k, some ⟨bv, 0, none⟩, L⟩ : EIn)]).map EIn.k = List.range (k + 1) := by rw [List.map_append, hpre, List.range_succ]; rfl
    have HPR := Lib.hid hpr
    have HO := Lib.hid ho
    have HI := Lib.hid hi
    clear hJs hpre hpr ho hi hj hov hoi
    gi_wp2
    refine hR.mono ?_
    rintro e W3 (⟨rfl, hJ3, hst, hsz⟩ | ⟨rfl, hJx3⟩)
    · have ho3 := HO.out.stay hws HBM.out hst
      have hi3 := HI.out.stay (Nat.le_refl _) HIM.out hst
      have HD := Lib.hid (nextD_digs (ms := ms) (fun m hm => (HX.out m hm).1) (n := (k : Int)) (by omega) (by rw [HC.out]; exact Int.ofNat_lt.2 hk))
      have HN := Lib.hid (countOn_any ia (some ⟨bv, 0, none⟩) L ic L ts (digs ms (k : Int)) W3 W.heap.size bv hi3 HIB.out ho3 (digs_in _ HX.out) mm HBM.out)
      rw [HMS.out] at HN
      have HI3 := Lib.hid hi3
      have HJ3 := Lib.hid hJ3
      clear ho3 hi3 hJ3 hst HO HI
      by_cases hlast : k + 1 < C
      · have hlt : (k : Int) + 1 < prodL ms := by rw [HC.out]; omega
        have e2 := HD.out.1
        rw [decide_eq_true hlt] at e2
        have e3 := HD.out.2 hlt
        rw [e2, e3] at HN
        clear e2 e3 HD hlt
        gi_wp2_with fail
        refine ⟨trivial, (callsIn_wide.2 HN.out).mono ?_⟩
        rintro e W4 ⟨rfl, ho4, hs4⟩
        have hj4 := HJ.out _ _ _ _ HJ3.out (hs4.wide hws (Nat.le_refl _))
        have hi4 := HI3.out.only hs4 (fun g hg => .inl (HIB.out g hg))
        clear HN HJ3 HI3 hs4
        gi_wp2
        go_roundw
        case rel => exact ⟨k + 1, _, hlast, by go_num, HPR.out, hj4, ho4, hi4⟩
        case measure => simp [intOf]; omega
      · have hlt : ¬ (k : Int) + 1 < prodL ms := by rw [HC.out]; omega
        have e2 := HD.out.1
        rw [decide_eq_false hlt] at e2
        rw [e2] at HN
        clear e2 HD hlt
        have hkC : k + 1 = C := by omega
        gi_wp2_with fail
        refine ⟨trivial, (callsIn_wide.2 HN.out).mono ?_⟩
        rintro e W4 ⟨rfl, ho4, hs4⟩
        have hj4 := HJ.out _ _ _ _ HJ3.out (hs4.wide hws (Nat.le_refl _))
        clear HN HJ3 HI3 hs4 ho4
        gi_wp2
        go_end0
        exact ⟨⟨_, rfl⟩, .inl ⟨_, _, by rw [← hkC]; exact HPR.out, hj4⟩⟩
    · clear HO HI
      gi_wp2
      refine ⟨trivial, ?_⟩
      gi_wp2
      go_end0
      exact ⟨⟨_, rfl⟩, .inr ⟨_, _, ⟨k + 1, by omega, HPR.out⟩, hJx3⟩⟩
set_option maxHeartbeats 1000000 in
theorem eachInput_in (n : Nat) (wd tp : Int) (a1 a2 a3 a4 : Option Addr) (n1 n2 n3 n4 c1 c2 c3 c4 : Nat) (w : World) :
    CallsIn Fence.wide n Tryz.prog 61 #[.agg #[.int .i64 wd, .slice a1 n1 c1, .slice a2 n2 c2, .int .i64 tp, .slice a3 n3 c3, .slice a4 n4 c4]] w fun e w' => e = .returned (.func (.func 101) #[] #[.pointer (some ⟨w.heap.size, 0, none⟩)]) ∧ w' = w.alloc (.cells #[.int .i64 wd, .slice a1 n1 c1, .slice a2 n2 c2, .int .i64 tp, .slice a3 n3 c3, .slice a4 n4 c4] 31) := by
  refine callsIn_of_wp Tryz.func61 rfl trivial ?_ rfl
  simp only [Tryz.ntmps61, List.size_toArray, List.length_cons, List.length_nil, Nat.reduceAdd, Nat.reduceSub, Array.replicate_succ, Array.replicate_zero, List.push_toArray, List.append_toArray, List.nil_append, List.cons_append]
  gi_wp2
  go_ret
  exact ⟨rfl, rfl⟩
/-- All inputs of a right program, one by one. -/
theorem eachInput_stops (n : Nat) (hn : 1 ≤ n) (Bs : Nat) (r : PRow) (p : Prg) (hlen : p.lows.length + p.secrets.length ≤ 6) (hmx : ∀ m ∈ maxesP p, 0 ≤ m ∧ m ≤ 255) (w : World)
    (hBs : Blk w Bs 31 [.int .i64 r.width, slV r.lows, slV r.secrets, .int .i64 r.temps, slV r.arrays, slV r.body]) (hp : ProgAt w r p) :
    SeqOwns Tryz.prog n 101 #[.pointer (some ⟨Bs, 0, none⟩)] (encE (maxesP p).length) (fun lo hi x W => infoE (maxesP p) (maxesP p).length lo hi x W) (fun xs => xs.map EIn.k = List.range (prodL (maxesP p)).toNat) (fun pre => ∃ k, k ≤ (prodL (maxesP p)).toNat ∧ pre.map EIn.k = List.range k) w := fun l J Jx W hW hJ _ h0 hY =>
  eachInput1_in n hn l Bs r p hlen hmx J Jx W (hBs.below hW hBs.lt) (hp.below hW) hJ h0 hY
end Go.Proofs.YtmooecbdpfhnlaaGreat
/- The contract of slices.Clone at numbers, and of the model's l7At. -/
namespace Go.Proofs.YtmooecbdpfhnlaaGreat
open Go.RowKit

set_option maxHeartbeats 400000 in
theorem cloneInts_any (a : Option Addr) (n c : Nat) (zs : List Int) (w : World) (h : Ints w a n zs) :
    Calls Tryz.prog 98 #[.slice a n c] w (MadeInts w zs) := by
  have qT : ∀ (w : World) (a : Option Addr) (n c n' c' : Nat), (binOp .eql 28 (.slice a n c) (.slice none n' c')).run Tryz.prog w = .ok (.bool a.isNone) w := fun w a n c n' c' => Lib.run_eql_slice_nil w _ _ a n c n' c' Tryz.underlying28
  have hn := h.2.1
  cases a with
  | none =>
    have hn0 : n = 0 := by
      rcases Nat.eq_zero_or_pos n with h0 | h0
      · exact h0
      · obtain ⟨b, o, e, _⟩ := h.2.2.2 h0
        cases e
    subst hn0
    have hvs : zs = [] := List.eq_nil_of_length_eq_zero h.1
    subst hvs
    go_enter Tryz.func98, Tryz.ntmps98
    go_wp2
    go_ret
    exact ⟨none, 0, 0, rfl, own_nil _ _, Below.refl _ _⟩
  | some ad =>
    have hb : Below w.heap.size w (w.alloc (.cells #[] 2)) := (Below.refl _ _).alloc (Nat.le_refl _) _
    have HI := Lib.hid (h.below hb)
    have HE := Lib.hid (own_empty w w.heap.size (Nat.le_refl _))
    have HB := Lib.hid hb
    clear h hb
    go_enter Tryz.func98, Tryz.ntmps98
    go_wp2_with (at_builtin; refine wpList_concat _ rfl _ _ rfl w.heap.size _ 0 0 [] rfl HE.out _ _ _ zs rfl HI.out (by omega) (by simp) ?_)
    intro a1 c1 w1 hown hgr
    have hbw := below_push HB.out HE.out (by simp) hgr
    have hown : Own w1 w.heap.size a1 n c1 zs := by simpa using hown
    go_wp2
    go_ret
    exact ⟨a1, n, c1, by simp, hown, hbw⟩
theorem digs_drop {ms : List Int} {k : Nat} {x : Int} (hk : k < ms.length) (hx : Hid (x = ms.getD k 0)) (Q : Int) : digs (ms.drop k) Q = Q % (x + 1) :: digs (ms.drop (k + 1)) (Q / (x + 1)) := by
  have e : ms[k] = x := by rw [hx.out]; simp [List.getD_eq_getElem?_getD, List.getElem?_eq_getElem hk]
  rw [List.drop_eq_getElem_cons hk, digs, e]
set_option maxHeartbeats 1600000 in
theorem l7At_any (a : Option Addr) (n c : Nat) (ms : List Int) (N : Int) (w : World) (h : Ints w a n ms) (hm : ∀ m ∈ ms, 0 ≤ m ∧ m ≤ 255) (h0 : 0 ≤ N) (h1 : N ≤ 281474976710656) (hn : n ≤ 6) :
    Calls Tryz.prog 95 #[.slice a n c, .int .i64 N] w fun e w' => ∃ g c', e = .returned (.slice (some ⟨g, 0, none⟩) n c') ∧ Own w' w.heap.size (some ⟨g, 0, none⟩) n c' (digs ms N) ∧ Below w.heap.size w w' := by
  have HL := Lib.hid h.1
  have HM := Lib.hid hm
  have HI := Lib.hid h
  clear hm h
  go_enter Tryz.func95, Tryz.ntmps95
  go_wp2_with fail
  go_loopw [1, 5, 6] (fun q v i wr => ∃ (k : Nat) (Q : Int) (a1 : Option Addr) (c1 : Nat) (acc : List Int), k ≤ n ∧ i = .int .i64 (k : Int) ∧ q = .int .i64 Q ∧ v = .slice a1 k c1 ∧ (∃ g, a1 = some ⟨g, 0, none⟩) ∧ digs ms N = acc ++ digs (ms.drop k) Q ∧ 0 ≤ Q ∧ Q ≤ 281474976710656 ∧ Own wr w.heap.size a1 k c1 acc ∧ Below w.heap.size w wr) (fun _ _ i _ => n - (intOf i).toNat)
  case atStart => exact ⟨0, N, _, _, [], by omega, rfl, rfl, rfl, ⟨_, rfl⟩, rfl, h0, h1, own_empty w _ (Nat.le_refl _), (Below.refl _ _).alloc (Nat.le_refl _) _⟩
  case round =>
    obtain ⟨k, Q, a1, c1, acc, hk, rfl, rfl, rfl, hg1, hd, q0, q1, hown, hbel⟩ := hrel
    have hbs := hbel.size
    by_cases hlt : k < n
    · obtain ⟨b, o, z, rfl, hb, hz, hin, hc⟩ := (HI.out.below hbel).at_ hlt
      have hzm := HM.out z (by rw [hz.out]; exact getD_mem (by rw [HL.out]; exact hlt))
      rw [digs_drop (by rw [HL.out]; exact hlt) hz] at hd
      have HD := Lib.hid hd
      have r0 := Int.emod_nonneg Q (show z + 1 ≠ 0 by omega)
      have r1 := Int.emod_lt_of_pos Q (show 0 < z + 1 by omega)
      have d0 := Int.ediv_nonneg q0 (show 0 ≤ z + 1 by omega)
      have d1 := Int.ediv_le_self (z + 1) q0
      have hq : In64 (Q % (z + 1)) := ⟨by omega, by omega⟩
      clear hd
      go_wp2_with (at_builtin; refine wpList_push _ rfl _ _ rfl w.heap.size _ _ _ acc rfl (hown.alloc _) wr.heap.size (Q % (z + 1)) rfl (by simp) hq (by omega) (by simp; omega) ?_)
      intro a8 c8 w8 hown8 hg8
      have hb8 := below_push (hbel.alloc hbs _) (hown.alloc _) (by simp; omega) hg8
      obtain ⟨b', o', z', e', hb', hz', hin', hc'⟩ := (HI.out.below hb8).at_ hlt
      injection e' with e'
      injection e' with e1 e2
      subst e1 e2
      obtain rfl : z' = z := by rw [hz'.out, hz.out]
      have HG8 : Hid (∃ g, a8 = some ⟨g, 0, none⟩) := Lib.hid (by obtain ⟨gv, e, _⟩ := own_at (k := k) hown8 (by rw [hown8.len]; omega); exact ⟨gv, e⟩)
      clear hg1 hown hg8 hbel hc hb hin hq r0 r1
      go_wp2_with fail
      go_roundw
      case rel => exact ⟨k + 1, Q / (z' + 1), a8, c8, acc ++ [Q % (z' + 1)], by omega, by go_num, rfl, rfl, HG8.out, by rw [HD.out, List.append_assoc]; rfl, d0, by omega, hown8, hb8⟩
      case measure => simp [intOf]; omega
    · obtain rfl : n = k := by omega
      rw [show ms.drop n = [] by rw [List.drop_eq_nil_iff, HL.out]; exact Nat.le_refl _, digs, List.append_nil] at hd
      obtain ⟨g1, rfl⟩ := hg1
      go_wp2
      go_ret
      rw [hd]
      exact ⟨_, _, rfl, hown, hbel⟩
end Go.Proofs.YtmooecbdpfhnlaaGreat
/- The contracts of the program's InputsIn and BitsIn. -/
namespace Go.Proofs.YtmooecbdpfhnlaaGreat
open Go.RowKit

end Go.Proofs.YtmooecbdpfhnlaaGreat
