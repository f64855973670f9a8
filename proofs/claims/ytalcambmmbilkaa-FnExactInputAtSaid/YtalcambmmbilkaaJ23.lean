/- Joined texts of this proof (InRound, EachInput, CloneInts, ImplIn, ImplAt, SpecIn), in build order. -/
import Derived.Test.YtalcambmmbilkaaJ22
import Derived.StillTailTactics
import Derived.Test.YtalcambmmbilkaaJ20
import Derived.Test.YtalcambmmbilkaaJ21
import Derived.Test.YtalcambmmbilkaaJ13
import Derived.Test.YtalcambmmbilkaaJ16
import Derived.Test.YtalcambmmbilkaaJ15
import Derived.Test.YtalcambmmbilkaaJ19
import Derived.Test.YtalcambmmbilkaaJ10
/- A region that draws its order, within a round of a range over a function: its reads in the text's order, its last step behind them. -/
namespace Go.Proofs.Ytalcambmmbilkaa
open Go.RowKit Go.Shelf

section
variable {P : Program} {ops : Array Oper} {Q : Exit → Act → World → Prop}
theorem opIn_of {i l n : Nat} {K K' : Act → World → Prop} (hd : ∀ (j : Nat) (o : Oper), ops[j]? = some o → ∀ c, o.op ≠ .defer c) (hQ : ¬ LetsOut Q) (hK : ∀ a w, K a w → K' a w) {a : Act} {w : World} (h : wpOp P ops Q i K a w) :
    wpOpIn (Fence.wide.inRound l) n P ops Q i K' a w := by
  unfold wpOp at h
  unfold wpOpIn
  cases ho : ops[i]? with
  | none => simp only [ho] at h ⊢; exact hK _ _ h
  | some o =>
    simp only [ho] at h ⊢
    by_cases hw : Region.wanted o (yielded ops a.tmps) = true
    · rw [if_pos hw] at h ⊢
      rcases h with h | ⟨_, h⟩
      case inr => exact absurd h hQ
      refine ⟨fun _ _ => trivial, ?_⟩
      rw [Oper.semAt_eq _ _ _ (hd i o ho)]
      unfold Oper.wp at h
      generalize (execOp a.eval o).run P w = r at h ⊢
      cases r with
      | ok nx w' =>
        cases nx with
        | value v => exact hK _ _ h
        | skip => exact hK _ _ h
        | defer d => exact hK _ _ h
        | enter f args =>
          refine ⟨fun e => by simp [Fence.wide] at e, CallsIn.inRound l (callsIn_wide.2 (Calls.mono h fun e w'' he => ?_))⟩
          cases e with
          | returned v => exact hK _ _ he
          | panicked c => exact he
          | outgrown => exact he
        | row row args =>
          exact ⟨fun e => by simp [Fence.wide] at e, fun c cs _ => let ⟨v, w'', hr, hs⟩ := h c cs; ⟨v, w'', hK _ _ hr, stepsIn_wide.2 hs⟩⟩
        | _ => exact h.elim
      | halt hl w' =>
        cases hl with
        | panic v => exact h
        | _ => exact h.elim
    · rw [if_neg hw] at h ⊢
      exact ⟨fun _ _ => trivial, hK _ _ h⟩
theorem anyIn_of {l n : Nat} {md : Region.Mode} (hd : ∀ (j : Nat) (o : Oper), ops[j]? = some o → ∀ c, o.op ≠ .defer c) (hQ : ¬ LetsOut Q) : ∀ (fuel : Nat) (listed : Array Bool) (a : Act) (w : World), wpAny P md ops Q fuel listed a w → wpAnyIn (Fence.wide.inRound l) n P md ops Q fuel listed a w
  | 0, _, _, _, h => h
  | fuel + 1, _, _, _, h => ⟨h.1, fun i hi => opIn_of hd hQ (fun a w => anyIn_of hd hQ fuel _ a w) (h.2 i hi)⟩
end
/-- The region's first n operations read; the others follow in a row. -/
theorem inRound_tail {P : Program} {id l m : Nat} {Q : Exit → Act → World → Prop} {a : Act} {w : World} {L : List Oper} (n : Nat) (hm : P.follows .mixedOrders = true) (hB : Region.lexTailB .any L.toArray n = true)
    (hd : (L.all fun o => match o.op with | .defer _ => false | _ => true) = true) (hQ : ¬ LetsOut Q)
    (h : wpStill P L.toArray { w with drawn := w.drawn + 1 } (fun a' => wpList P L.toArray Q (L.drop n) a' { w with drawn := w.drawn + 1 }) (L.take n) a) : (Code.region id L.toArray true).wpIn (Fence.wide.inRound l) m P Q a w := by
  refine wpIn_region_any hm (anyIn_of (fun j o ho c e => ?_) hQ _ _ _ _ ?_)
  · have hmem : o ∈ L := by have := Array.mem_of_getElem? ho; simpa using this
    have := List.all_eq_true.1 hd o hmem
    rw [e] at this
    cases this
  · simp only [Region.lexTailB, Bool.and_eq_true, decide_eq_true_eq] at hB
    obtain ⟨⟨⟨⟨b1, b2⟩, b3⟩, b4⟩, b5⟩ := hB
    have hlt : n < L.length := by simpa using b2
    have hh : (L.take n).length = n := by rw [List.length_take]; omega
    have ht : (L.drop n).length = L.toArray.size - n := by simp
    have H := wpAnyL_lex (md := .any) (g := L.toArray.size - n) b1 b3 b4 b2 (L.take n) 0 (Array.replicate L.toArray.size false) a (fun j hj => by rw [hh] at hj; simp [hj]) (by rw [Nat.zero_add, hh])
      ⟨by simp, fun j oj _ hl => (by rw [getD_replicate_false] at hl; cases hl), fun t _ ht' => Go.getD_in (by simpa using ht') (getD_replicate_false _ _)⟩ (by rw [hh]; exact b5) h
    have R := wpAny_of_head (Q' := Q) (g := L.toArray.size - n) (fun listed a' hL => by
      have := wpAny_of_seq (md := .any) (Q' := Q) (L.drop n) n listed a' { w with drawn := w.drawn + 1 } (fun j => by simp [List.getElem?_drop]) (by rw [ht]; exact hL.1) hL.2
      rwa [ht] at this) _ _ _ H
    rw [hh, show n + (L.toArray.size - n) = L.toArray.size by omega] at R
    exact R
end Go.Proofs.Ytalcambmmbilkaa
/- The contracts of the program's countOn and eachInput. -/
namespace Go.Proofs.Ytalcambmmbilkaa
open Go.RowKit Go.Shelf
attribute [local go_sem] Oper.semAt_some

theorem OwnI.only {w w' : World} {B n c lo hi : Nat} {a : Option Addr} {ts : List Tm} (h : OwnI w B a n c ts) (hs : Span lo hi w w') (hv : ∀ g, (Value.slice a n c).ownBlock = some g → g < lo ∨ hi ≤ g) : OwnI w' B a n c ts := ⟨ownsRow_span h.1 hs hv, h.2⟩
theorem own_at {w : World} {B : Nat} {a : Option Addr} {n c k : Nat} {zs : List Int} (h : Own w B a n c zs) (hk : k < zs.length) : ∃ gv, a = some ⟨gv, 0, none⟩ ∧ w.cell? ⟨gv, k, none⟩ = some (.int .i64 (zs.getD k 0)) ∧ w.frozen? ⟨gv, k, none⟩ = false ∧ gv < w.heap.size := by
  have hl := h.len
  rcases h.1.2 with ⟨_, h0⟩ | ⟨gv, cap, cur, e, hb, hh, hr⟩
  · omega
  · injection e with e1 e2 e3
    subst e1 e3
    exact ⟨gv, rfl, own_cell h.1 (by omega), h.1.frozenAt k, (Array.getElem?_eq_some_iff.1 hh).1⟩
theorem Span.drewN {lo hi : Nat} (W : World) (q : Nat) : Span lo hi W (W.drewN q) := ⟨rfl, rfl, rfl, Nat.le_refl _, fun _ _ _ => rfl⟩
set_option maxRecDepth 20000 in
set_option maxHeartbeats 1600000 in
theorem countOn_any (ai av : Option Addr) (L ci cv : Nat) (ts : List Tm) (zs : List Int) (w : World) (B0 B : Nat) (h : OwnI w B0 ai L ci ts) (hb : ∀ g, (Value.slice ai L ci).ownBlock = some g → g < B) (hv : Own w B av L cv zs) (hz : ∀ z ∈ zs, 0 ≤ z ∧ z ≤ 255) (M : Nat) (hM : ∀ g, (Value.slice av L cv).ownBlock = some g → g < M) :
    Calls Try.prog 96 #[.slice ai L ci, .slice av L cv] w fun e w' => e = .returned (.bool (nextD (maxesL ts) zs).2) ∧ Own w' B av L cv (nextD (maxesL ts) zs).1 ∧ Span B M w w' := by
  have HI := Lib.hid h
  have HBB := Lib.hid hb
  have hzl := hv.len
  have htl := h.len
  have HZI : Hid (∀ k, k < L → 0 ≤ zs.getD k 0 ∧ zs.getD k 0 ≤ 255) := Lib.hid (fun k hk => hz _ (getD_mem (by omega)))
  obtain ⟨ms, HMS⟩ : ∃ ms, Hid (maxesL ts = ms) := ⟨_, Lib.hid rfl⟩
  have HML : Hid (ms.length = L) := Lib.hid (by rw [← HMS.out, maxesL_len, htl])
  have HGET : Hid (∀ k x y, k < L → Hid (tmAt ts k = (x, y)) → ms.getD k 0 = x) := Lib.hid (fun k x y hk hh => by rw [← HMS.out, maxesL_getD (by omega), hh.out])
  have HZL := Lib.hid hzl
  have hL : L ≤ 1048576 := h.2.1
  rw [HMS.out]
  have HZZ : Hid (∀ z ∈ zs, In64 z) := Lib.hid hv.2.2
  clear h hb hz htl hzl HMS
  go_enter Try.func96, Try.ntmps96
  go_wp2
  go_loopw [9] (fun i wr => ∃ k : Nat, k ≤ L ∧ i = .int .i64 (k : Int) ∧ Own wr B av L cv (List.replicate k 0 ++ zs.drop k) ∧ Span B M w wr ∧ nextD ms zs = (List.replicate k 0 ++ (nextD (ms.drop k) (zs.drop k)).1, (nextD (ms.drop k) (zs.drop k)).2)) (fun i _ => L - (intOf i).toNat)
  case atStart => exact ⟨0, Nat.zero_le _, rfl, hv, Span.refl _ _ _, rfl⟩
  case round =>
    obtain ⟨k, hk, rfl, ho, hs, hnx⟩ := hrel
    by_cases hlt : k < L
    · obtain ⟨bi, oi, x, y, rfl, hbi, htm, hi1, hi2, hc1, hc2⟩ := (HI.out.only hs (fun g hg => .inl (HBB.out g hg))).terms.at_ hlt
      have hx := HGET.out k x y hlt htm
      obtain ⟨gv, rfl, hcv, hfv, hgv⟩ := own_at (k := k) ho (by rw [ho.len]; exact hlt)
      rw [repl_get] at hcv
      obtain ⟨z1, z2⟩ := HZI.out k hlt
      have hst := nextD_step (ms := ms) (zs := zs) (i := k) (by rw [HML.out]; exact hlt) (by rw [HML.out, HZL.out])
      rw [hx] at hst
      have hset := repl_set (zs := zs) (i := k) (by rw [HZL.out]; exact hlt)
      obtain ⟨z, HZ⟩ : ∃ z, Hid (zs.getD k 0 = z) := ⟨_, rfl⟩
      rw [HZ.out] at hcv z1 z2 hst
      obtain ⟨wb, HWB⟩ : ∃ wb, Hid (wb = wr.alloc (.cells #[.int .i64 x, .int .i64 y] 79)) := ⟨_, rfl⟩
      have hgB : B ≤ gv ∧ gv < wr.heap.size := ho.block gv rfl
      have hgw : gv < M := hM gv rfl
      have hob : Own wb B (some ⟨gv, 0, none⟩) L cv (List.replicate k 0 ++ zs.drop k) := by rw [HWB.out]; exact ho.alloc _
      have hsb : Span B M w wb := by rw [HWB.out]; exact hs.trans (Span.of_below ((Below.refl _ _).alloc (Nat.le_refl _) _))
      have bz := own_cell hob.1 hlt
      rw [repl_get, HZ.out, HWB.out] at bz
      have HN1 : Hid (∀ q, Own ((wb.drewN q).setCell ⟨gv, k, none⟩ (.int .i64 (z + 1))) B (some ⟨gv, 0, none⟩) L cv (List.replicate k 0 ++ ((z + 1) :: zs.drop (k + 1)))) := Lib.hid (fun q => by
        have := own_put (hob.drewN q).1 k (z + 1)
        rw [hset] at this
        exact ⟨this, hL, fun y hq => by
          simp only [List.mem_append, List.mem_cons] at hq
          rcases hq with hq | rfl | hq
          · rw [List.eq_of_mem_replicate hq]; exact ⟨by decide, by decide⟩
          · exact ⟨by omega, by omega⟩
          · exact HZZ.out y (List.mem_of_mem_drop hq)⟩)
      have HN2 : Hid (∀ q, Own ((wb.drewN q).setCell ⟨gv, k, none⟩ (.int .i64 0)) B (some ⟨gv, 0, none⟩) L cv (List.replicate (k + 1) 0 ++ zs.drop (k + 1))) := Lib.hid (fun q => by
        have := own_put (hob.drewN q).1 k 0
        rw [hset, repl_more] at this
        exact ⟨this, hL, fun y hq => by
          simp only [List.mem_append] at hq
          rcases hq with hq | hq
          · rw [List.eq_of_mem_replicate hq]; exact ⟨by decide, by decide⟩
          · exact HZZ.out y (List.mem_of_mem_drop hq)⟩)
      have HS1 : Hid (∀ q v, Span B M w ((wb.drewN q).setCell ⟨gv, k, none⟩ v)) := Lib.hid (fun q v => (hsb.trans (Span.drewN _ q)).trans (Span.set _ _ hgB.1 hgw))
      rw [HWB.out] at HN1 HN2 HS1
      have HNX := Lib.hid hnx
      have HST := Lib.hid hst
      clear hx htm hset hob hsb ho hs hnx hst HZ
      go_wp2
      have bx := (Blk.new wr 79 [.int .i64 x, .int .i64 y]).cell (j := 0) rfl
      go_quiet (fail)
      go_wp2
      · have hzx : z < x := by assumption
        go_ret
        rw [HNX.out, HST.out, if_pos hzx]
        exact ⟨rfl, HN1.out _, HS1.out _ _⟩
      · have hzx : ¬ z < x := by omega
        go_roundw
        case rel =>
          refine ⟨k + 1, by omega, by go_num, HN2.out _, HS1.out _ _, ?_⟩
          rw [HNX.out, HST.out, if_neg hzx]
          simp only []
          rw [List.replicate_succ', List.append_assoc]
          rfl
        case measure => simp [intOf]; omega
    · obtain rfl : k = L := by omega
      have hdz : zs.drop k = [] := by rw [List.drop_eq_nil_iff, HZL.out]; exact Nat.le_refl _
      have hdm : ms.drop k = [] := by rw [List.drop_eq_nil_iff, HML.out]; exact Nat.le_refl _
      rw [hdz, hdm, show nextD ([] : List Int) [] = ([], false) from rfl] at hnx
      rw [hdz] at ho
      go_wp2
      rw [List.append_nil] at ho
      go_ret
      exact ⟨rfl, ho, hs⟩
/-- What yield is handed: the number, and the values' slice. -/
structure EIn where
  k : Nat
  a : Option Addr
  c : Nat
def encE (L : Nat) (x : EIn) : Array Value := #[.int .i64 (x.k : Int), .slice x.a L x.c]
/-- What holds of it: the values are those of the number. -/
def infoE (ms : List Int) (L lo hi : Nat) (x : EIn) (W : World) : Prop := Own W lo x.a L x.c (digs ms x.k) ∧ (∀ g, (Value.slice x.a L x.c).ownBlock = some g → g < hi) ∧ (x.k : Int) < prodL ms ∧ ∃ g, x.a = some ⟨g, 0, none⟩
theorem infoE_stay {ms : List Int} {L lo hi : Nat} {x : EIn} {A B : World} (h : infoE ms L lo hi x A) (hs : Stay lo hi A B) : infoE ms L lo hi x B := by
  refine ⟨⟨⟨h.1.1.1, ?_⟩, h.1.2⟩, h.2⟩
  rcases h.1.1.2 with hn | ⟨g, cap, cur, e, hb, hg, r⟩
  · exact .inl hn
  · exact .inr ⟨g, cap, cur, e, hb, (hs g hb (h.2.1 g (by rw [e]; rfl))).trans hg, r⟩
theorem OwnI.stay {lo hi B n c : Nat} {a : Option Addr} {ts : List Tm} {A C : World} (h : OwnI A B a n c ts) (hB : lo ≤ B) (hv : ∀ g, (Value.slice a n c).ownBlock = some g → g < hi) (hs : Stay lo hi A C) : OwnI C B a n c ts := by
  refine ⟨⟨h.1.1, ?_⟩, h.2⟩
  rcases h.1.2 with hn | ⟨g, cap, cur, e, hb, hg, r⟩
  · exact .inl hn
  · exact .inr ⟨g, cap, cur, e, hb, (hs g (by omega) (hv g (by rw [e]; rfl))).trans hg, r⟩
theorem Own.stay {lo hi B n c : Nat} {a : Option Addr} {zs : List Int} {A C : World} (h : Own A B a n c zs) (hB : lo ≤ B) (hv : ∀ g, (Value.slice a n c).ownBlock = some g → g < hi) (hs : Stay lo hi A C) : Own C B a n c zs := by
  refine ⟨⟨h.1.1, ?_⟩, h.2⟩
  rcases h.1.2 with hn | ⟨g, cap, cur, e, hb, hg, r⟩
  · exact .inl hn
  · exact .inr ⟨g, cap, cur, e, hb, (hs g (by omega) (hv g (by rw [e]; rfl))).trans hg, r⟩
set_option maxRecDepth 100000 in
set_option maxHeartbeats 2000000 in
theorem eachInput1_in (n : Nat) (hn : 1 ≤ n) (l Bs : Nat) (r : PRow) (p : Prg) (hlen : p.lows.length + p.secrets.length ≤ 6) (hmx : ∀ m ∈ maxesP p, 0 ≤ m ∧ m ≤ 255) (J Jx : Nat → List EIn → World → Prop) (W : World)
    (hBs : Blk W Bs 31 [.int .i64 r.width, slV r.lows, slV r.secrets, .int .i64 r.temps, slV r.arrays, slV r.body]) (hp : ProgAt W r p)
    (hJ : ∀ m s A B, J m s A → Span W.heap.size m A B → J m s B)
    (h0 : ∀ W', Below W.heap.size W W' → J W'.heap.size [] W')
    (hY : ∀ m pre x W1, J m pre W1 → infoE (maxesP p) (maxesP p).length W.heap.size m x W1 → YieldAt Fence.wide (n - 1) Try.prog l (encE (maxesP p).length x) W1 fun e W' =>
      (e = .returned (.bool true) ∧ J m (pre ++ [x]) W' ∧ Stay W.heap.size m W1 W' ∧ W1.heap.size ≤ W'.heap.size) ∨ (e = .returned (.bool false) ∧ Jx m (pre ++ [x]) W')) :
    CallsIn Fence.wide n Try.prog 95 #[.func (.yield l) #[] #[], .pointer (some ⟨Bs, 0, none⟩)] W fun e W' => (∃ v, e = .returned v) ∧
      ((∃ m xs, (xs.map EIn.k = List.range (prodL (maxesP p)).toNat) ∧ J m xs W') ∨ (∃ m pre, (∃ k, k ≤ (prodL (maxesP p)).toNat ∧ pre.map EIn.k = List.range k) ∧ Jx m pre W')) := by
  have HM : Hid (∀ w', Below W.heap.size W w' → Calls Try.prog 56 #[progV r] w' (MadeI w' (p.lows ++ p.secrets))) := Lib.hid (fun w' hw => inputsOf_any r p w' (hp.below hw) (by omega))
  have HX := Lib.hid hmx
  have HY := Lib.hid hY
  have HJ := Lib.hid hJ
  have H0 := Lib.hid h0
  have HTL : Hid ((p.lows ++ p.secrets).length = (maxesP p).length) := Lib.hid (by rw [maxesP_len]; simp)
  have HMS : Hid (maxesL (p.lows ++ p.secrets) = maxesP p) := Lib.hid rfl
  have hL6 : (maxesP p).length ≤ 6 := by rw [maxesP_len]; exact hlen
  clear hp hlen hmx hJ h0 hY
  obtain ⟨ts, HTS⟩ : ∃ ts, Hid (p.lows ++ p.secrets = ts) := ⟨_, Lib.hid rfl⟩
  rw [HTS.out] at HM HTL HMS
  obtain ⟨ms, HMM⟩ : ∃ ms, Hid (maxesP p = ms) := ⟨_, Lib.hid rfl⟩
  rw [HMM.out] at HX HY HTL HMS hL6 ⊢
  obtain ⟨L, HLE⟩ : ∃ L, Hid (ms.length = L) := ⟨_, rfl⟩
  rw [HLE.out] at HY HTL hL6
  clear HTS HMM
  have hpos := prodL_pos (fun m hm => (HX.out m hm).1)
  have hCb := prodL_small HX.out (by rw [HLE.out]; exact hL6)
  obtain ⟨C, HC⟩ : ∃ C : Nat, Hid (prodL ms = (C : Int)) := ⟨(prodL ms).toNat, Lib.hid (by omega)⟩
  have hCN : (prodL ms).toNat = C := by rw [HC.out]; rfl
  rw [hCN]
  rw [HC.out] at hpos hCb
  obtain ⟨wd, ⟨a1, n1, c1⟩, ⟨a2, n2, c2⟩, tp, ⟨a3, n3, c3⟩, ⟨a4, n4, c4⟩, rows⟩ := r
  simp only [progV, slV] at HM hBs
  have t0 := hBs.cell (j := 0) rfl
  have t1 := hBs.cell (j := 1) rfl
  have t2 := hBs.cell (j := 2) rfl
  have t3 := hBs.cell (j := 3) rfl
  have t4 := hBs.cell (j := 4) rfl
  have t5 := hBs.cell (j := 5) rfl
  refine callsIn_of_wp Try.func95 rfl trivial ?_ rfl
  simp only [Try.ntmps95, List.size_toArray, List.length_cons, List.length_nil, Nat.reduceAdd, Nat.reduceSub, Array.replicate_succ, Array.replicate_zero, List.push_toArray, List.append_toArray, List.nil_append, List.cons_append]
  gi_wp2_with fail
  refine ⟨trivial, (callsIn_wide.2 (HM.out _ (Below.refl _ _))).mono ?_⟩
  rintro e w2 ⟨ia, im, ic, rfl, hoi, hb2⟩
  have him : L = im := by rw [← hoi.len, HTL.out]
  subst him
  have hmk : ∀ w, (Instr.makeSlice 28 (.int .i64 (L : Int)) (.int .i64 (L : Int))).run Try.prog w = .ok (.slice (some ⟨w.heap.size, 0, none⟩) L L) (w.alloc (.cells (madeCells #[.int .i64 0] L) 2)) := fun w => make_row L (by omega) w
  clear t0 t1 t2 t3 t4 t5 hBs
  gi_wp2_with fail
  obtain ⟨w3, HW3⟩ : ∃ w3, Hid (w3 = w2.alloc (.cells (madeCells #[.int .i64 0] L) 2)) := ⟨_, rfl⟩
  have hb3 : Below w2.heap.size w2 w3 := by rw [HW3.out]; exact (Below.refl _ _).alloc (Nat.le_refl _) _
  have hov : Own w3 w2.heap.size (some ⟨w2.heap.size, 0, none⟩) L L (digs ms 0) := by rw [HW3.out, digs_zero (fun m hm => (HX.out m hm).1), HLE.out]; exact own_made w2 L (by omega)
  have hbw : Below W.heap.size W w3 := hb2.trans (hb3.mono hb2.size)
  have hvm : w2.heap.size < w3.heap.size := by rw [HW3.out]; simp
  have HIB := Lib.hid (fun g (hg : (Value.slice ia L ic).ownBlock = some g) => (hoi.block g hg).2)
  have hoi := hoi.below hb3
  have hws : W.heap.size ≤ w2.heap.size := hb2.size
  have hj := H0.out w3 hbw
  rw [← HW3.out]
  obtain ⟨bv, HBV⟩ : ∃ bv, Hid (w2.heap.size = bv) := ⟨_, rfl⟩
  rw [HBV.out] at hov hvm hws HIB ⊢
  obtain ⟨mm, HMM⟩ : ∃ mm, Hid (w3.heap.size = mm) := ⟨_, rfl⟩
  rw [HMM.out] at hj hvm
  clear HW3 hb2 hb3 hbw HBV HM H0 hmk
  have HBM : Hid (∀ g, (Value.slice (some ⟨bv, 0, none⟩) L L).ownBlock = some g → g < mm) := Lib.hid (fun g hg => by have hg' : some bv = some g := hg; injection hg' with hg'; omega)
  have HIM : Hid (∀ g, (Value.slice ia L ic).ownBlock = some g → g < mm) := Lib.hid (fun g hg => by have := HIB.out g hg; omega)
  gi_loopw [5] (fun i wr => ∃ (k : Nat) (pre : List EIn), k < C ∧ i = .int .i64 (k : Int) ∧ pre.map EIn.k = List.range k ∧ J mm pre wr ∧ Own wr bv (some ⟨bv, 0, none⟩) L L (digs ms (k : Int)) ∧ OwnI wr W.heap.size ia L ic ts) (fun i _ => C - (intOf i).toNat)
  case atStart => exact ⟨0, [], by omega, rfl, rfl, hj, hov, hoi⟩
  case round =>
    obtain ⟨k, pre, hk, rfl, hpre, hJs, ho, hi⟩ := hrel
    obtain ⟨fn, tmps, assign, body, hy, hR⟩ := HY.out mm pre ⟨k, some ⟨bv, 0, none⟩, L⟩ wr hJs ⟨ho.base hws, HBM.out, by rw [HC.out]; exact Int.ofNat_lt.2 hk, bv, rfl⟩
    simp only [encE] at hy
    have hpr : (pre ++ [(⟨k, some ⟨bv, 0, none⟩, L⟩ : EIn)]).map EIn.k = List.range (k + 1) := by rw [List.map_append, hpre, List.range_succ]; rfl
    have HPR := Lib.hid hpr
    have HO := Lib.hid ho
    have HI := Lib.hid hi
    clear hJs hpre hpr ho hi hj hov hoi
    gi_wp2
    refine hR.mono ?_
    rintro e W3 (⟨rfl, hJ3, hst, hsz⟩ | ⟨rfl, hJx3⟩)
    · have ho3 := HO.out.stay hws HBM.out hst
      have hi3 := HI.out.stay (Nat.le_refl _) HIM.out hst
      have HD := Lib.hid (nextD_digs (ms := ms) (fun m hm => (HX.out m hm).1) (n := (k : Int)) (by omega) (by rw [HC.out]; exact Int.ofNat_lt.2 hk))
      have HN := Lib.hid (countOn_any ia (some ⟨bv, 0, none⟩) L ic L ts (digs ms (k : Int)) W3 W.heap.size bv hi3 HIB.out ho3 (digs_in _ HX.out) mm HBM.out)
      rw [HMS.out] at HN
      have HI3 := Lib.hid hi3
      have HJ3 := Lib.hid hJ3
      clear ho3 hi3 hJ3 hst HO HI
      by_cases hlast : k + 1 < C
      · have hlt : (k : Int) + 1 < prodL ms := by rw [HC.out]; omega
        have e2 := HD.out.1
        rw [decide_eq_true hlt] at e2
        have e3 := HD.out.2 hlt
        rw [e2, e3] at HN
        clear e2 e3 HD hlt
        gi_wp2_with fail
        refine ⟨trivial, (callsIn_wide.2 HN.out).mono ?_⟩
        rintro e W4 ⟨rfl, ho4, hs4⟩
        have hj4 := HJ.out _ _ _ _ HJ3.out (hs4.wide hws (Nat.le_refl _))
        have hi4 := HI3.out.only hs4 (fun g hg => .inl (HIB.out g hg))
        clear HN HJ3 HI3 hs4
        gi_wp2
        go_roundw
        case rel => exact ⟨k + 1, _, hlast, by go_num, HPR.out, hj4, ho4, hi4⟩
        case measure => simp [intOf]; omega
      · have hlt : ¬ (k : Int) + 1 < prodL ms := by rw [HC.out]; omega
        have e2 := HD.out.1
        rw [decide_eq_false hlt] at e2
        rw [e2] at HN
        clear e2 HD hlt
        have hkC : k + 1 = C := by omega
        gi_wp2_with fail
        refine ⟨trivial, (callsIn_wide.2 HN.out).mono ?_⟩
        rintro e W4 ⟨rfl, ho4, hs4⟩
        have hj4 := HJ.out _ _ _ _ HJ3.out (hs4.wide hws (Nat.le_refl _))
        clear HN HJ3 HI3 hs4 ho4
        gi_wp2
        go_end0
        exact ⟨⟨_, rfl⟩, .inl ⟨_, _, by rw [← hkC]; exact HPR.out, hj4⟩⟩
    · clear HO HI
      gi_wp2
      refine ⟨trivial, ?_⟩
      gi_wp2
      go_end0
      exact ⟨⟨_, rfl⟩, .inr ⟨_, _, ⟨k + 1, by omega, HPR.out⟩, hJx3⟩⟩
set_option maxHeartbeats 1000000 in
theorem eachInput_in (n : Nat) (wd tp : Int) (a1 a2 a3 a4 : Option Addr) (n1 n2 n3 n4 c1 c2 c3 c4 : Nat) (w : World) :
    CallsIn Fence.wide n Try.prog 59 #[.agg #[.int .i64 wd, .slice a1 n1 c1, .slice a2 n2 c2, .int .i64 tp, .slice a3 n3 c3, .slice a4 n4 c4]] w fun e w' => e = .returned (.func (.func 95) #[] #[.pointer (some ⟨w.heap.size, 0, none⟩)]) ∧ w' = w.alloc (.cells #[.int .i64 wd, .slice a1 n1 c1, .slice a2 n2 c2, .int .i64 tp, .slice a3 n3 c3, .slice a4 n4 c4] 31) := by
  refine callsIn_of_wp Try.func59 rfl trivial ?_ rfl
  simp only [Try.ntmps59, List.size_toArray, List.length_cons, List.length_nil, Nat.reduceAdd, Nat.reduceSub, Array.replicate_succ, Array.replicate_zero, List.push_toArray, List.append_toArray, List.nil_append, List.cons_append]
  gi_wp2
  go_ret
  exact ⟨rfl, rfl⟩
/-- All inputs of a right program, one by one. -/
theorem eachInput_stops (n : Nat) (hn : 1 ≤ n) (Bs : Nat) (r : PRow) (p : Prg) (hlen : p.lows.length + p.secrets.length ≤ 6) (hmx : ∀ m ∈ maxesP p, 0 ≤ m ∧ m ≤ 255) (w : World)
    (hBs : Blk w Bs 31 [.int .i64 r.width, slV r.lows, slV r.secrets, .int .i64 r.temps, slV r.arrays, slV r.body]) (hp : ProgAt w r p) :
    SeqOwns Try.prog n 95 #[.pointer (some ⟨Bs, 0, none⟩)] (encE (maxesP p).length) (fun lo hi x W => infoE (maxesP p) (maxesP p).length lo hi x W) (fun xs => xs.map EIn.k = List.range (prodL (maxesP p)).toNat) (fun pre => ∃ k, k ≤ (prodL (maxesP p)).toNat ∧ pre.map EIn.k = List.range k) w := fun l J Jx W hW hJ _ h0 hY =>
  eachInput1_in n hn l Bs r p hlen hmx J Jx W (hBs.below hW hBs.lt) (hp.below hW) hJ h0 hY
end Go.Proofs.Ytalcambmmbilkaa
/- The contract of slices.Clone at numbers, and of the model's l7At. -/
namespace Go.Proofs.Ytalcambmmbilkaa
open Go.RowKit

set_option maxHeartbeats 400000 in
theorem cloneInts_any (a : Option Addr) (n c : Nat) (zs : List Int) (w : World) (h : Ints w a n zs) :
    Calls Try.prog 60 #[.slice a n c] w (MadeInts w zs) := by
  have qT : ∀ (w : World) (a : Option Addr) (n c n' c' : Nat), (binOp .eql 28 (.slice a n c) (.slice none n' c')).run Try.prog w = .ok (.bool a.isNone) w := fun w a n c n' c' => Lib.run_eql_slice_nil w _ _ a n c n' c' Try.underlying28
  have hn := h.2.1
  cases a with
  | none =>
    have hn0 : n = 0 := by
      rcases Nat.eq_zero_or_pos n with h0 | h0
      · exact h0
      · obtain ⟨b, o, e, _⟩ := h.2.2.2 h0
        cases e
    subst hn0
    have hvs : zs = [] := List.eq_nil_of_length_eq_zero h.1
    subst hvs
    go_enter Try.func60, Try.ntmps60
    go_wp2
    go_ret
    exact ⟨none, 0, 0, rfl, own_nil _ _, Below.refl _ _⟩
  | some ad =>
    have hb : Below w.heap.size w (w.alloc (.cells #[] 2)) := (Below.refl _ _).alloc (Nat.le_refl _) _
    have HI := Lib.hid (h.below hb)
    have HE := Lib.hid (own_empty w w.heap.size (Nat.le_refl _))
    have HB := Lib.hid hb
    clear h hb
    go_enter Try.func60, Try.ntmps60
    go_wp2_with (at_builtin; refine wpList_concat _ rfl _ _ rfl w.heap.size _ 0 0 [] rfl HE.out _ _ _ zs rfl HI.out (by omega) (by simp) ?_)
    intro a1 c1 w1 hown hgr
    have hbw := below_push HB.out HE.out (by simp) hgr
    have hown : Own w1 w.heap.size a1 n c1 zs := by simpa using hown
    go_wp2
    go_ret
    exact ⟨a1, n, c1, by simp, hown, hbw⟩
theorem digs_drop {ms : List Int} {k : Nat} {x : Int} (hk : k < ms.length) (hx : Hid (x = ms.getD k 0)) (Q : Int) : digs (ms.drop k) Q = Q % (x + 1) :: digs (ms.drop (k + 1)) (Q / (x + 1)) := by
  have e : ms[k] = x := by rw [hx.out]; simp [List.getD_eq_getElem?_getD, List.getElem?_eq_getElem hk]
  rw [List.drop_eq_getElem_cons hk, digs, e]
set_option maxHeartbeats 1600000 in
theorem l7At_any (a : Option Addr) (n c : Nat) (ms : List Int) (N : Int) (w : World) (h : Ints w a n ms) (hm : ∀ m ∈ ms, 0 ≤ m ∧ m ≤ 255) (h0 : 0 ≤ N) (h1 : N ≤ 281474976710656) (hn : n ≤ 6) :
    Calls Try.prog 78 #[.slice a n c, .int .i64 N] w fun e w' => ∃ g c', e = .returned (.slice (some ⟨g, 0, none⟩) n c') ∧ Own w' w.heap.size (some ⟨g, 0, none⟩) n c' (digs ms N) ∧ Below w.heap.size w w' := by
  have HL := Lib.hid h.1
  have HM := Lib.hid hm
  have HI := Lib.hid h
  clear hm h
  go_enter Try.func78, Try.ntmps78
  go_wp2_with fail
  go_loopw [1, 5, 6] (fun q v i wr => ∃ (k : Nat) (Q : Int) (a1 : Option Addr) (c1 : Nat) (acc : List Int), k ≤ n ∧ i = .int .i64 (k : Int) ∧ q = .int .i64 Q ∧ v = .slice a1 k c1 ∧ (∃ g, a1 = some ⟨g, 0, none⟩) ∧ digs ms N = acc ++ digs (ms.drop k) Q ∧ 0 ≤ Q ∧ Q ≤ 281474976710656 ∧ Own wr w.heap.size a1 k c1 acc ∧ Below w.heap.size w wr) (fun _ _ i _ => n - (intOf i).toNat)
  case atStart => exact ⟨0, N, _, _, [], by omega, rfl, rfl, rfl, ⟨_, rfl⟩, rfl, h0, h1, own_empty w _ (Nat.le_refl _), (Below.refl _ _).alloc (Nat.le_refl _) _⟩
  case round =>
    obtain ⟨k, Q, a1, c1, acc, hk, rfl, rfl, rfl, hg1, hd, q0, q1, hown, hbel⟩ := hrel
    have hbs := hbel.size
    by_cases hlt : k < n
    · obtain ⟨b, o, z, rfl, hb, hz, hin, hc⟩ := (HI.out.below hbel).at_ hlt
      have hzm := HM.out z (by rw [hz.out]; exact getD_mem (by rw [HL.out]; exact hlt))
      rw [digs_drop (by rw [HL.out]; exact hlt) hz] at hd
      have HD := Lib.hid hd
      have r0 := Int.emod_nonneg Q (show z + 1 ≠ 0 by omega)
      have r1 := Int.emod_lt_of_pos Q (show 0 < z + 1 by omega)
      have d0 := Int.ediv_nonneg q0 (show 0 ≤ z + 1 by omega)
      have d1 := Int.ediv_le_self (z + 1) q0
      have hq : In64 (Q % (z + 1)) := ⟨by omega, by omega⟩
      clear hd
      go_wp2_with (at_builtin; refine wpList_push _ rfl _ _ rfl w.heap.size _ _ _ acc rfl (hown.alloc _) wr.heap.size (Q % (z + 1)) rfl (by simp) hq (by omega) (by simp; omega) ?_)
      intro a8 c8 w8 hown8 hg8
      have hb8 := below_push (hbel.alloc hbs _) (hown.alloc _) (by simp; omega) hg8
      obtain ⟨b', o', z', e', hb', hz', hin', hc'⟩ := (HI.out.below hb8).at_ hlt
      injection e' with e'
      injection e' with e1 e2
      subst e1 e2
      obtain rfl : z' = z := by rw [hz'.out, hz.out]
      have HG8 : Hid (∃ g, a8 = some ⟨g, 0, none⟩) := Lib.hid (by obtain ⟨gv, e, _⟩ := own_at (k := k) hown8 (by rw [hown8.len]; omega); exact ⟨gv, e⟩)
      clear hg1 hown hg8 hbel hc hb hin hq r0 r1
      go_wp2_with fail
      go_roundw
      case rel => exact ⟨k + 1, Q / (z' + 1), a8, c8, acc ++ [Q % (z' + 1)], by omega, by go_num, rfl, rfl, HG8.out, by rw [HD.out, List.append_assoc]; rfl, d0, by omega, hown8, hb8⟩
      case measure => simp [intOf]; omega
    · obtain rfl : n = k := by omega
      rw [show ms.drop n = [] by rw [List.drop_eq_nil_iff, HL.out]; exact Nat.le_refl _, digs, List.append_nil] at hd
      obtain ⟨g1, rfl⟩ := hg1
      go_wp2
      go_ret
      rw [hd]
      exact ⟨_, _, rfl, hown, hbel⟩
end Go.Proofs.Ytalcambmmbilkaa
/- The contracts of the program's InputsIn and BitsIn. -/
namespace Go.Proofs.Ytalcambmmbilkaa
open Go.RowKit

set_option maxHeartbeats 1600000 in
theorem implInputsIn_any (r : PRow) (p : Prg) (w : World) (h : ProgAt w r p) (hcap : r.body.2.1 ≤ r.body.2.2) :
    Calls Try.prog 23 #[progV r] w fun e w' => e = .returned (.int .i64 (countB p)) ∧ Below w.heap.size w w' := by
  have HC : Hid (∀ w', Below w.heap.size w w' → Calls Try.prog 18 #[progV r] w' fun e w'' => e = .returned (.bool (codeB p == 0)) ∧ Below w'.heap.size w' w'') := Lib.hid (fun w' hw => implProgOk_any r p w' (h.below hw) hcap)
  have HM : Hid (codeB p = 0 → ∀ w', Below w.heap.size w w' → Calls Try.prog 56 #[progV r] w' (MadeI w' (p.lows ++ p.secrets))) := Lib.hid (fun hz w' hw => inputsOf_any r p w' (h.below hw) (by have := code_inputs hz; omega))
  obtain ⟨S, HS⟩ : ∃ S, Hid (countB p = S) := ⟨_, rfl⟩
  rw [HS.out]
  obtain ⟨wd, ⟨a1, n1, c1⟩, ⟨a2, n2, c2⟩, tp, ⟨a3, n3, c3⟩, ⟨a4, n4, c4⟩, rows⟩ := r
  show Calls Try.prog 23 #[.agg #[.int .i64 wd, .slice a1 n1 c1, .slice a2 n2 c2, .int .i64 tp, .slice a3 n3 c3, .slice a4 n4 c4]] w _
  clear h hcap
  obtain ⟨wa, HW⟩ : ∃ wa, Hid (wa = w.alloc (.cells #[.int .i64 wd, .slice a1 n1 c1, .slice a2 n2 c2, .int .i64 tp, .slice a3 n3 c3, .slice a4 n4 c4] 31)) := ⟨_, rfl⟩
  have B : Blk wa w.heap.size 31 [.int .i64 wd, .slice a1 n1 c1, .slice a2 n2 c2, .int .i64 tp, .slice a3 n3 c3, .slice a4 n4 c4] := by rw [HW.out]; exact Blk.new w _ _
  have HB : Below w.heap.size w wa := by rw [HW.out]; exact (Below.refl _ _).alloc (Nat.le_refl _) _
  by_cases hz : codeB p = 0
  · have hzz : (codeB p == 0) = true := by simpa using hz
    rw [hzz] at HC
    have HMX := Lib.hid (code_max hz)
    have HS2 : Hid (countTo (maxesP p) (maxesP p).length = S) := Lib.hid (by rw [← HS.out, countB, if_pos hz])
    have HM := Lib.hid (HM.out hz)
    obtain ⟨ms, HMS⟩ : ∃ ms, Hid (maxesP p = ms) := ⟨_, rfl⟩
    rw [HMS.out] at HMX HS2
    clear hz hzz HS
    go_enter Try.func23, Try.ntmps23
    go_wp2_with fail
    rw [← HW.out]
    refine (HC.out _ HB).mono ?_
    rintro e w1 ⟨rfl, hb1⟩
    have B := B.below hb1 B.lt
    have HB := HB.trans (hb1.mono HB.size)
    have t0 := B.cell (j := 0) rfl
    have t1 := B.cell (j := 1) rfl
    have t2 := B.cell (j := 2) rfl
    have t3 := B.cell (j := 3) rfl
    have t4 := B.cell (j := 4) rfl
    have t5 := B.cell (j := 5) rfl
    go_wp2_with fail
    refine (HM.out _ HB).mono ?_
    rintro e w2 ⟨sa, sn, sc, rfl, ho, hb2⟩
    have HB := HB.trans (hb2.mono HB.size)
    have HT := Lib.hid ho.terms
    have hlen : ms.length = sn := by rw [← HMS.out, maxesP, maxesL_len, HT.out.1]
    have HGET : Hid (∀ k x y, k < sn → Hid (tmAt (p.lows ++ p.secrets) k = (x, y)) → ms.getD k 0 = x) := Lib.hid (fun k x y hk hh => by rw [← HMS.out, maxesP, maxesL_getD (by rw [HT.out.1]; exact hk), hh.out])
    have hn6 : sn ≤ 6 := by rw [← hlen]; exact HMX.out.1
    rw [hlen] at HS2
    have HL := Lib.hid hlen
    clear t0 t1 t2 t3 t4 t5 B hb1 hb2 ho hlen HMS
    go_wp2_with fail
    go_loopw [3, 12] (fun q i wr => ∃ k : Nat, k ≤ sn ∧ i = .int .i64 (k : Int) ∧ q = .int .i64 (countTo ms k) ∧ Below w2.heap.size w2 wr) (fun _ i _ => sn - (intOf i).toNat)
    case atStart => exact ⟨0, Nat.zero_le _, rfl, rfl, Below.refl _ _⟩
    case round =>
      obtain ⟨k, hk, rfl, rfl, hbel⟩ := hrel
      by_cases hlt : k < sn
      · obtain ⟨b, o, x, y, rfl, hb, hz, hin1, hin2, hc1, hc2⟩ := (HT.out.below (Nat.le_refl _) hbel).at_ hlt
        have hx := HGET.out k x y hlt hz
        obtain ⟨p1, p2⟩ := countTo_pos HMX.out k (by rw [HL.out]; omega)
        obtain ⟨p3, p4⟩ := countTo_pos HMX.out (k + 1) (by rw [HL.out]; omega)
        obtain ⟨z1, z2⟩ := HMX.out.2 k (by rw [HL.out]; exact hlt)
        rw [hx] at z1 z2
        have q1 : 256 ^ k ≤ 256 ^ 6 := Nat.pow_le_pow_right (by omega) (by omega)
        have q2 : 256 ^ (k + 1) ≤ 256 ^ 6 := Nat.pow_le_pow_right (by omega) (by omega)
        have HS : Hid (countTo ms (k + 1) = countTo ms k * (x + 1)) := Lib.hid (by rw [countTo, hx])
        rw [HS.out] at p3 p4
        have b2 : countTo ms k ≤ 281474976710656 := by omega
        have b4 : countTo ms k * (x + 1) ≤ 281474976710656 := by omega
        have hb8 := hbel.alloc hbel.size (.cells #[.int .i64 x, .int .i64 y] 79)
        clear p2 p4 q1 q2 hx hz
        generalize countTo ms k = Q at p1 p3 b2 b4 HS ⊢
        go_wp2
        go_roundw
        case rel => exact ⟨k + 1, by omega, by go_num, by rw [HS.out], hb8⟩
        case measure => simp [intOf]; omega
      · obtain rfl : sn = k := by omega
        have HB := HB.trans (hbel.mono HB.size)
        go_wp2
        go_ret
        exact ⟨ret_int HS2.out, HB⟩
  · have hzz : (codeB p == 0) = false := by simpa using hz
    rw [hzz] at HC
    have hS : S = -1 := by rw [← HS.out, countB, if_neg hz]
    subst hS
    clear hz hzz HS HM
    go_enter Try.func23, Try.ntmps23
    go_wp2_with fail
    rw [← HW.out]
    refine (HC.out _ HB).mono ?_
    rintro e w1 ⟨rfl, hb1⟩
    have HB := HB.trans (hb1.mono HB.size)
    go_wp2
    go_ret
    exact ⟨rfl, HB⟩
set_option maxHeartbeats 800000 in
theorem implBitsIn_any (r : PRow) (p : Prg) (w : World) (h : ProgAt w r p) (hcap : r.body.2.1 ≤ r.body.2.2) :
    Calls Try.prog 24 #[progV r] w fun e w' => e = .returned (.int .i64 (bitsInB p)) ∧ Below w.heap.size w w' := by
  have HC : Hid (∀ w', Below w.heap.size w w' → Calls Try.prog 18 #[progV r] w' fun e w'' => e = .returned (.bool (codeB p == 0)) ∧ Below w'.heap.size w' w'') := Lib.hid (fun w' hw => implProgOk_any r p w' (h.below hw) hcap)
  have HM : Hid (codeB p = 0 → ∀ w', Below w.heap.size w w' → Calls Try.prog 56 #[progV r] w' (MadeI w' (p.lows ++ p.secrets))) := Lib.hid (fun hz w' hw => inputsOf_any r p w' (h.below hw) (by have := code_inputs hz; omega))
  obtain ⟨S, HS⟩ : ∃ S, Hid (bitsInB p = S) := ⟨_, rfl⟩
  rw [HS.out]
  obtain ⟨wd, ⟨a1, n1, c1⟩, ⟨a2, n2, c2⟩, tp, ⟨a3, n3, c3⟩, ⟨a4, n4, c4⟩, rows⟩ := r
  show Calls Try.prog 24 #[.agg #[.int .i64 wd, .slice a1 n1 c1, .slice a2 n2 c2, .int .i64 tp, .slice a3 n3 c3, .slice a4 n4 c4]] w _
  clear h hcap
  obtain ⟨wa, HW⟩ : ∃ wa, Hid (wa = w.alloc (.cells #[.int .i64 wd, .slice a1 n1 c1, .slice a2 n2 c2, .int .i64 tp, .slice a3 n3 c3, .slice a4 n4 c4] 31)) := ⟨_, rfl⟩
  have B : Blk wa w.heap.size 31 [.int .i64 wd, .slice a1 n1 c1, .slice a2 n2 c2, .int .i64 tp, .slice a3 n3 c3, .slice a4 n4 c4] := by rw [HW.out]; exact Blk.new w _ _
  have HB : Below w.heap.size w wa := by rw [HW.out]; exact (Below.refl _ _).alloc (Nat.le_refl _) _
  by_cases hz : codeB p = 0
  · have hzz : (codeB p == 0) = true := by simpa using hz
    rw [hzz] at HC
    obtain ⟨i1, i2, i3, i4⟩ := code_inputs hz
    have HSM := Lib.hid i3
    have HS2 : Hid ((bitsTo (p.lows ++ p.secrets) (p.lows ++ p.secrets).length : Int) = S) := Lib.hid (by rw [bitsTo_app, ← HS.out, bitsInB, if_pos hz])
    have HN : Hid ((p.lows ++ p.secrets).length ≤ 6) := Lib.hid (by simp; omega)
    have HM := Lib.hid (HM.out hz)
    have hS0 : 0 ≤ S := by rw [← HS2.out]; omega
    have hS1 : S ≤ 10 := by rw [← HS.out, bitsInB, if_pos hz]; omega
    clear hz hzz HS i1 i2 i3 i4
    go_enter Try.func24, Try.ntmps24
    go_wp2_with fail
    rw [← HW.out]
    refine (HC.out _ HB).mono ?_
    rintro e w1 ⟨rfl, hb1⟩
    have B := B.below hb1 B.lt
    have HB := HB.trans (hb1.mono HB.size)
    have t0 := B.cell (j := 0) rfl
    have t1 := B.cell (j := 1) rfl
    have t2 := B.cell (j := 2) rfl
    have t3 := B.cell (j := 3) rfl
    have t4 := B.cell (j := 4) rfl
    have t5 := B.cell (j := 5) rfl
    go_wp2_with fail
    refine (HM.out _ HB).mono ?_
    rintro e w2 ⟨sa, sn, sc, rfl, ho, hb2⟩
    have HB := HB.trans (hb2.mono HB.size)
    have hn6 : sn ≤ 6 := by rw [← ho.len]; exact HN.out
    have HT := Lib.hid ho.terms
    clear t0 t1 t2 t3 t4 t5 B hb1 hb2 ho
    go_wp2_with fail
    refine (bitsOfMaxes_six _ _ _ _ _ HT.out HSM.out hn6).mono ?_
    rintro e w3 ⟨rfl, hb3⟩
    rw [HS2.out]
    have HB := HB.trans (hb3.mono HB.size)
    go_wp2
    go_ret
    exact ⟨rfl, HB⟩
  · have hzz : (codeB p == 0) = false := by simpa using hz
    rw [hzz] at HC
    have hS : S = -1 := by rw [← HS.out, bitsInB, if_neg hz]
    subst hS
    clear hz hzz HS HM
    go_enter Try.func24, Try.ntmps24
    go_wp2_with fail
    rw [← HW.out]
    refine (HC.out _ HB).mono ?_
    rintro e w1 ⟨rfl, hb1⟩
    have HB := HB.trans (hb1.mono HB.size)
    go_wp2
    go_ret
    exact ⟨rfl, HB⟩
end Go.Proofs.Ytalcambmmbilkaa
/- The contract of the program's InputAt. -/
namespace Go.Proofs.Ytalcambmmbilkaa
open Go.RowKit Go.Shelf
attribute [local go_sem] Oper.semAt_some

/-- Whether there is such an input; its lows, its secrets. -/
noncomputable def atOk (p : Prg) (N : Int) : Bool := decide (codeB p = 0) && (decide (0 ≤ N) && decide (N < prodL (maxesP p)))
noncomputable def atL (p : Prg) (N : Int) : List Int := if atOk p N = true then (digs (maxesP p) N).take p.lows.length else []
noncomputable def atS (p : Prg) (N : Int) : List Int := if atOk p N = true then (digs (maxesP p) N).drop p.lows.length else []
/-- What InputAt leaves. -/
def AtAns (w : World) (p : Prg) (N : Int) (e : Ending) (w' : World) : Prop :=
  Below w.heap.size w w' ∧ ∃ s t : Sl, e = .returned (.tuple #[slV s, slV t, .bool (atOk p N)]) ∧ Own w' w.heap.size s.1 s.2.1 s.2.2 (atL p N) ∧ Own w' w.heap.size t.1 t.2.1 t.2.2 (atS p N) ∧ ∀ g, (slV s).ownBlock = some g → (slV t).ownBlock ≠ some g
theorem wide_of_max {p : Prg} (h : codeB p = 0) : ∀ m ∈ maxesP p, 0 ≤ m ∧ m ≤ 255 := by
  intro m hm
  obtain ⟨i, hi, rfl⟩ := List.getElem_of_mem hm
  have := (code_max h).2 i hi
  simpa [List.getD_eq_getElem?_getD, List.getElem?_eq_getElem hi] using this
theorem results_cell3 {fn : Func} {p q u : Tmp} {ty tz tu : TypeId} (h : fn.results = #[.cell p ty, .cell q tz, .cell u tu]) (tmps : Array Value) (P : Program) (w : World) :
    (results fn tmps).run P w =
      ((asAddr (tmps.getD p undef)).run P w).andThen fun a w₁ => ((loadVar ty a).run P w₁).andThen fun v w₂ =>
        ((asAddr (tmps.getD q undef)).run P w₂).andThen fun a' w₃ => ((loadVar tz a').run P w₃).andThen fun v' w₄ =>
          ((asAddr (tmps.getD u undef)).run P w₄).andThen fun a'' w₅ => ((loadVar tu a'').run P w₅).andThen fun v'' w₆ => .ok (.tuple #[v, v', v'']) w₆ := by
  simp only [results, h]
  simp [Sem.run_bind, Result.andThen]
theorem inRound_held {P : Program} {S : World → Prop} {id l m : Nat} {Q : Exit → Act → World → Prop} {a : Act} {w : World} {L : List Oper} (hm : P.follows .mixedOrders = true) (hd : (L.all fun o => match o.op with | .defer _ => false | _ => true) = true) (hQ : ¬ LetsOut Q)
    (h : wpAnyH P .any L.toArray Q S L.toArray.size (Array.replicate L.toArray.size false) a { w with drawn := w.drawn + 1 }) : (Code.region id L.toArray true).wpIn (Fence.wide.inRound l) m P Q a w := by
  refine wpIn_region_any hm (anyIn_of (fun j o ho c e => ?_) hQ _ _ _ _ (wpAny_of_held _ _ _ _ h))
  have hmem : o ∈ L := by have := Array.mem_of_getElem? ho; simpa using this
  have := List.all_eq_true.1 hd o hmem
  rw [e] at this
  cases this
theorem ints_tail {w : World} {B g n c j : Nat} {zs : List Int} (h : Own w B (some ⟨g, 0, none⟩) n c zs) (hj : j ≤ n) (hc : n ≤ c) : Ints w (if c = j then some ⟨g, 0, none⟩ else some ⟨g, j, none⟩) (n - j) (zs.drop j) := by
  have hl := h.len
  refine ⟨by rw [List.length_drop, hl], by have := h.2.1; omega, fun z hz => h.2.2 z (List.mem_of_mem_drop hz), fun hp => ?_⟩
  have hb := (h.block g rfl).2
  rw [if_neg (by omega)]
  refine ⟨g, j, rfl, hb, fun i hi => ?_⟩
  rw [own_cell h.1 (by omega)]
  simp [List.getD_eq_getElem?_getD]
theorem own_put_def {w : World} {B n c D : Nat} {a : Option Addr} {zs : List Int} {o' : Obj} {ds : Option (List Deferred)} (h : Own w B a n c zs) (hD : w.heap[D]? = some (.deferred ds)) : Own (w.putObj D o') B a n c zs := by
  refine h.keep (grownBy_putObj' w D o') (fun g hg e => ?_)
  injection e with e
  subst e
  obtain ⟨c1, f1, e1⟩ := Go.Lib.ownsRow_kind h.1 D hg
  rw [hD] at e1
  cases e1
/-- How its loop is left by the return within. -/
def StopAt (k : Nat) (w W0 : World) (p : Prg) (N : Int) (c : Code) (m : Nat) (W : World) : Prop :=
  c = .ret ∧ ∃ s t : Sl, Blk W (k + 1 + 1) 28 [slV s] ∧ Blk W (k + 1 + 1 + 1) 28 [slV t] ∧ Blk W (k + 1 + 1 + 1 + 1) 4 [.bool true] ∧ Own W m s.1 s.2.1 s.2.2 (atL p N) ∧ Own W m t.1 t.2.1 t.2.2 (atS p N) ∧ (∀ g, (slV s).ownBlock = some g → (slV t).ownBlock ≠ some g) ∧ atOk p N = true ∧ W0.heap.size ≤ W.heap.size ∧ Below w.heap.size w W ∧ W0.heap.size ≤ m
/-- Between two rounds. -/
def GoAt (W0 : World) (N : Int) (m : Nat) (pre : List EIn) (W : World) : Prop := (∀ x ∈ pre, (x.k : Int) ≠ N) ∧ m ≤ W.heap.size ∧ W0.heap.size ≤ m ∧ Below W0.heap.size W0 W
theorem belA {w w' : World} {o : Obj} (h : Below w.heap.size w w') : Below w.heap.size w (w'.alloc o) := h.alloc h.size _
set_option maxRecDepth 100000 in
set_option maxHeartbeats 4000000 in
theorem implInputAt_any (r : PRow) (p : Prg) (N : Int) (w : World) (h : ProgAt w r p) (hcap : r.body.2.1 ≤ r.body.2.2) (_hN : In64 N) :
    Calls Try.prog 26 #[progV r, .int .i64 N] w (AtAns w p N) := by
  have HC : Hid (∀ w', Below w.heap.size w w' → Calls Try.prog 18 #[progV r] w' fun e w'' => e = .returned (.bool (codeB p == 0)) ∧ Below w'.heap.size w' w'') := Lib.hid (fun w' hw => implProgOk_any r p w' (h.below hw) hcap)
  have HP := Lib.hid h
  clear h hcap
  obtain ⟨wd, ⟨a1, n1, c1⟩, ⟨a2, n2, c2⟩, tp, ⟨a3, n3, c3⟩, ⟨a4, n4, c4⟩, rows⟩ := r
  simp only [progV, slV] at HC
  show Calls Try.prog 26 #[.agg #[.int .i64 wd, .slice a1 n1 c1, .slice a2 n2 c2, .int .i64 tp, .slice a3 n3 c3, .slice a4 n4 c4], .int .i64 N] w _
  obtain ⟨v1, V1⟩ : ∃ v, Hid (v = w.alloc (.cells #[.int .i64 wd, .slice a1 n1 c1, .slice a2 n2 c2, .int .i64 tp, .slice a3 n3 c3, .slice a4 n4 c4] 31)) := ⟨_, rfl⟩
  obtain ⟨v2, V2⟩ : ∃ v, Hid (v = v1.alloc (.cells #[.int .i64 N] 2)) := ⟨_, rfl⟩
  obtain ⟨v3, V3⟩ : ∃ v, Hid (v = v2.alloc (.cells #[.slice none 0 0] 28)) := ⟨_, rfl⟩
  obtain ⟨v4, V4⟩ : ∃ v, Hid (v = v3.alloc (.cells #[.slice none 0 0] 28)) := ⟨_, rfl⟩
  obtain ⟨wa, V5⟩ : ∃ v, Hid (v = v4.alloc (.cells #[.bool false] 4)) := ⟨_, rfl⟩
  obtain ⟨k, HK⟩ : ∃ k, Hid (w.heap.size = k) := ⟨_, rfl⟩
  have s1 : v1.heap.size = k + 1 := by rw [V1.out, ← HK.out]; simp
  have s2 : v2.heap.size = k + 1 + 1 := by rw [V2.out]; simp [s1]
  have s3 : v3.heap.size = k + 1 + 1 + 1 := by rw [V3.out]; simp [s2]
  have s4 : v4.heap.size = k + 1 + 1 + 1 + 1 := by rw [V4.out]; simp [s3]
  have hsa : wa.heap.size = k + 1 + 1 + 1 + 1 + 1 := by rw [V5.out]; simp [s4]
  have D1 : Blk v1 k 31 [.int .i64 wd, .slice a1 n1 c1, .slice a2 n2 c2, .int .i64 tp, .slice a3 n3 c3, .slice a4 n4 c4] := by rw [V1.out, ← HK.out]; exact Blk.new w _ _
  have D2 : Blk v2 (k + 1) 2 [.int .i64 N] := by rw [V2.out, ← s1]; exact Blk.new v1 _ _
  have D3 : Blk v3 (k + 1 + 1) 28 [.slice none 0 0] := by rw [V3.out, ← s2]; exact Blk.new v2 _ _
  have D4 : Blk v4 (k + 1 + 1 + 1) 28 [.slice none 0 0] := by rw [V4.out, ← s3]; exact Blk.new v3 _ _
  have B4 : Blk wa (k + 1 + 1 + 1 + 1) 4 [.bool false] := by rw [V5.out, ← s4]; exact Blk.new v4 _ _
  have B3 : Blk wa (k + 1 + 1 + 1) 28 [.slice none 0 0] := by rw [V5.out]; exact D4.alloc _
  have B2 : Blk wa (k + 1 + 1) 28 [.slice none 0 0] := by rw [V5.out, V4.out]; exact (D3.alloc _).alloc _
  have B1 : Blk wa (k + 1) 2 [.int .i64 N] := by rw [V5.out, V4.out, V3.out]; exact ((D2.alloc _).alloc _).alloc _
  have B0 : Blk wa k 31 [.int .i64 wd, .slice a1 n1 c1, .slice a2 n2 c2, .int .i64 tp, .slice a3 n3 c3, .slice a4 n4 c4] := by rw [V5.out, V4.out, V3.out, V2.out]; exact (((D1.alloc _).alloc _).alloc _).alloc _
  have HB : Below w.heap.size w wa := by rw [V5.out, V4.out, V3.out, V2.out, V1.out]; exact belA (belA (belA (belA (belA (Below.refl _ _)))))
  have HW : Hid (wa = ((((w.alloc (.cells #[.int .i64 wd, .slice a1 n1 c1, .slice a2 n2 c2, .int .i64 tp, .slice a3 n3 c3, .slice a4 n4 c4] 31)).alloc (.cells #[.int .i64 N] 2)).alloc (.cells #[.slice none 0 0] 28)).alloc (.cells #[.slice none 0 0] 28)).alloc (.cells #[.bool false] 4)) := Lib.hid (by rw [V5.out, V4.out, V3.out, V2.out, V1.out])
  clear V1 V2 V3 V4 V5 D1 D2 D3 D4 s1 s2 s3 s4
  have t0 := B0.cell (j := 0) rfl
  have t1 := B0.cell (j := 1) rfl
  have t2 := B0.cell (j := 2) rfl
  have t3 := B0.cell (j := 3) rfl
  have t4 := B0.cell (j := 4) rfl
  have t5 := B0.cell (j := 5) rfl
  rw [HW.out, ← HK.out] at t0 t1 t2 t3 t4 t5
  by_cases hz : codeB p = 0
  case neg =>
    have hzz : (codeB p == 0) = false := by simpa using hz
    rw [hzz] at HC
    have hok : atOk p N = false := by simp [atOk, hz]
    have HAL : Hid (atL p N = []) := Lib.hid (by rw [atL, hok]; rfl)
    have HAS : Hid (atS p N = []) := Lib.hid (by rw [atS, hok]; rfl)
    go_enter Try.func26, Try.ntmps26
    go_wp2_with fail
    rw [← HW.out, HK.out]
    refine (HC.out _ HB).mono ?_
    rintro e w1 ⟨rfl, hb1⟩
    have hs1 := hb1.size
    have X2 := B2.below hb1 B2.lt
    have X3 := B3.below hb1 B3.lt
    have X4 := B4.below hb1 B4.lt
    have u2 := X2.cell (j := 0) rfl
    have u3 := X3.cell (j := 0) rfl
    have u4 := X4.cell (j := 0) rfl
    have f2 := X2.frozen 0
    have f3 := X3.frozen 0
    have f4 := X4.frozen 0
    have HF := HB.trans (hb1.mono HB.size)
    have HF3 := Lib.hid (((HF.setCell (p := ⟨k + 1 + 1, 0, none⟩) (by have := HK.out; simp only []; omega) (.slice none 0 0)).setCell (p := ⟨k + 1 + 1 + 1, 0, none⟩) (by have := HK.out; simp only []; omega) (.slice none 0 0)).setCell (p := ⟨k + 1 + 1 + 1 + 1, 0, none⟩) (by have := HK.out; simp only []; omega) (.bool false))
    clear HF
    clear t0 t1 t2 t3 t4 t5 B0 B1 B2 B3 B4 X2 X3 X4
    go_wp2
    refine ⟨rfl, .tuple #[.slice none 0 0, .slice none 0 0, .bool false], ?_, ?_⟩
    · rw [results_cell3 rfl]
      go_simp
    · exact ⟨HF3.out, (none, 0, 0), (none, 0, 0), by rw [hok]; rfl, by rw [HAL.out]; exact own_nil _ _, by rw [HAS.out]; exact own_nil _ _, fun g hg => by cases hg⟩
  case pos =>
    have hzz : (codeB p == 0) = true := by simpa using hz
    rw [hzz] at HC
    obtain ⟨l1, l2, _, _⟩ := code_inputs hz
    have HMX := Lib.hid (wide_of_max hz)
    have hlen : p.lows.length + p.secrets.length ≤ 6 := by omega
    have hpl := prodL_pos (fun m hm => (HMX.out m hm).1)
    have HOK : Hid (atOk p N = true ↔ 0 ≤ N ∧ N < prodL (maxesP p)) := Lib.hid (by simp [atOk, hz])
    have HN1 : Hid (n1 = p.lows.length) := Lib.hid HP.out.lows.1.symm
    have hnL : n1 ≤ (maxesP p).length := by rw [maxesP_len, HN1.out]; omega
    clear hz hzz l1 l2
    refine (callsIn_wide (n := 6)).1 ?_
    refine callsIn_of_wp_marks Try.func26 rfl trivial ?_ rfl
    simp only [Try.ntmps26, List.size_toArray, List.length_cons, List.length_nil, Nat.reduceAdd, Nat.reduceSub, Array.replicate_succ, Array.replicate_zero, List.push_toArray, List.append_toArray, List.nil_append, List.cons_append]
    gi_wp2_with fail
    rw [← HW.out, HK.out]
    refine ⟨trivial, (callsIn_wide.2 (HC.out _ HB)).mono ?_⟩
    rintro e w1 ⟨rfl, hb1⟩
    have X0 := B0.below hb1 B0.lt
    have t0 := X0.cell (j := 0) rfl
    have t1 := X0.cell (j := 1) rfl
    have t2 := X0.cell (j := 2) rfl
    have t3 := X0.cell (j := 3) rfl
    have t4 := X0.cell (j := 4) rfl
    have t5 := X0.cell (j := 5) rfl
    gi_wp2_with fail
    refine ⟨trivial, (eachInput_in _ wd tp a1 a2 a3 a4 n1 n2 n3 n4 c1 c2 c3 c4 _).mono ?_⟩
    rintro e w2 ⟨rfl, rfl⟩
    gi_wp2_with fail
    obtain ⟨W0, HW0⟩ : ∃ W0, Hid (W0 = w1.alloc (.cells #[.int .i64 wd, .slice a1 n1 c1, .slice a2 n2 c2, .int .i64 tp, .slice a3 n3 c3, .slice a4 n4 c4] 31)) := ⟨_, rfl⟩
    have hb0 : Below w1.heap.size w1 W0 := by rw [HW0.out]; exact (Below.refl _ _).alloc (Nat.le_refl _) _
    have HBX : Blk W0 w1.heap.size 31 [.int .i64 wd, .slice a1 n1 c1, .slice a2 n2 c2, .int .i64 tp, .slice a3 n3 c3, .slice a4 n4 c4] := by rw [HW0.out]; exact Blk.new w1 _ _
    have hbe : Below wa.heap.size wa W0 := hb1.trans (hb0.mono hb1.size)
    have E0 := Lib.hid (B0.below hbe B0.lt)
    have E1 := Lib.hid (B1.below hbe B1.lt)
    have E2 := Lib.hid (B2.below hbe B2.lt)
    have E3 := Lib.hid (B3.below hbe B3.lt)
    have E4 := Lib.hid (B4.below hbe B4.lt)
    have HBW := Lib.hid (HB.trans (hbe.mono HB.size))
    have HPA := Lib.hid (HP.out.below HBW.out)
    have hks : k + 1 + 1 + 1 + 1 < W0.heap.size := E4.out.lt
    rw [← HW0.out]
    obtain ⟨bs, HBS⟩ : ∃ bs, Hid (w1.heap.size = bs) := ⟨_, rfl⟩
    rw [HBS.out] at HBX ⊢
    clear t0 t1 t2 t3 t4 t5 B0 B1 B2 B3 B4 HB hb1 hb0 hbe HW0 HBS HC HW X0 HP
    refine wpIn_rangeFunc_owns (α := EIn) (gf := 95) (lb := #[.pointer (some ⟨bs, 0, none⟩)]) rfl (enters_of Try.func95 (by kernel_rfl) rfl)
      (eachInput_stops 5 (by omega) bs ⟨wd, (a1, n1, c1), (a2, n2, c2), tp, (a3, n3, c3), (a4, n4, c4), rows⟩ p hlen HMX.out W0 HBX HPA.out) (Below.refl _ _) (fun _ => rfl) (fun lo hi x A B h hs _ => infoE_stay h hs)
      (fun m pre W => GoAt W0 N m pre W)
      (fun c m _ W => StopAt k w W0 p N c m W)
      (fun m x a' W => a' = { tmps := #[.agg #[.int .i64 wd, .slice a1 n1 c1, .slice a2 n2 c2, .int .i64 tp, .slice a3 n3 c3, .slice a4 n4 c4], .int .i64 N, .pointer (some ⟨k, 0, none⟩), .pointer (some ⟨k + 1, 0, none⟩), .pointer (some ⟨k + 1 + 1, 0, none⟩), .pointer (some ⟨k + 1 + 1 + 1, 0, none⟩), .pointer (some ⟨k + 1 + 1 + 1 + 1, 0, none⟩), .int .i64 (x.k : Int), .slice x.a (maxesP p).length x.c, undef, .agg #[.int .i64 wd, .slice a1 n1 c1, .slice a2 n2 c2, .int .i64 tp, .slice a3 n3 c3, .slice a4 n4 c4], .bool true, .bool false, .agg #[.int .i64 wd, .slice a1 n1 c1, .slice a2 n2 c2, .int .i64 tp, .slice a3 n3 c3, .slice a4 n4 c4], .func (.func 95) #[] #[.pointer (some ⟨bs, 0, none⟩)], .int .i64 (x.k : Int), .slice x.a (maxesP p).length x.c, undef, undef, undef, undef, undef, undef, undef, undef, undef, undef, undef, undef, undef, undef], defers := [] })
      (fun m s A B h hs => ⟨h.1, Nat.le_trans h.2.1 hs.size, h.2.2.1, h.2.2.2.trans (hs.below h.2.2.2.size)⟩)
      (fun c m s A B h hs => by
        obtain ⟨rfl, s, t, h1, h2, h3, h4, h5, h6, h7, h8, h9, h10⟩ := h
        exact ⟨rfl, s, t, h1.span hs (.inl (by omega)), h2.span hs (.inl (by omega)), h3.span hs (.inl (by omega)), h4.span hs (Nat.le_refl _), h5.span hs (Nat.le_refl _), h6, h7, Nat.le_trans h8 hs.size, h9.trans ((hs.below h8).mono HBW.out.size), h10⟩)
      (fun _ _ _ _ _ h _ => h)
      (fun W' hb => ⟨fun x hx => absurd hx (by simp), Nat.le_refl _, hb.size, hb⟩)
      ?assign ?body ?done ?stop
    case assign =>
      rintro l m pre x W K hi hx hK
      simp only [encE]
      gi_wp2
      exact hK _ _ (KeepsFrom.refl _ _) (Stay.refl _ _ _) hi rfl
    case body =>
      rintro l m pre x a' W hl _ ⟨hne, hmW, hWm, hbW⟩ hx rfl
      have F0 := (E0.out.below hbW E0.out.lt).cell (j := 1) rfl
      have F1 := (E1.out.below hbW E1.out.lt).cell (j := 0) rfl
      have hxc := hx.1.cap
      by_cases hxN : (x.k : Int) = N
      · have hxe : decide ((x.k : Int) = N) = true := decide_eq_true hxN
        have hn1c : n1 ≤ x.c := by omega
        obtain ⟨g, hg⟩ := hx.2.2.2
        rw [hg]
        gi_wp2_with fail
        refine inRound_held (S := fun _ => True) (by kernel_rfl) (by kernel_rfl) (fun h => by obtain ⟨_, _, h⟩ := h; exact h) ?_
        refine wpAnyH_take (i := 0) (v := ?v0) rfl (by kernel_rfl) (by kernel_rfl) (by kernel_rfl) (fun _ _ _ h => h) (Or.inl ⟨by rfl, ?h0⟩) trivial ?_
        case h0 => intro w _; go_simp; (try rfl)
        refine wpAnyH_take (i := 1) (v := ?v1) rfl (by kernel_rfl) (by kernel_rfl) (by kernel_rfl) (fun _ _ _ h => h) (Or.inl ⟨by rfl, ?h1⟩) trivial ?_
        case h1 => intro w _; go_simp; (try rfl)
        refine wpAnyH_take (i := 2) (v := ?v2) rfl (by kernel_rfl) (by kernel_rfl) (by kernel_rfl) (fun _ _ _ h => h) (Or.inl ⟨by rfl, ?h2⟩) trivial ?_
        case h2 => intro w _; go_simp; (try rfl)
        refine wpAnyH_take (i := 4) (v := ?v4) rfl (by kernel_rfl) (by kernel_rfl) (by kernel_rfl) (fun _ _ _ h => h) (Or.inl ⟨by rfl, ?h4⟩) trivial ?_
        case h4 => intro w _; go_simp; (try rfl)
        refine wpAnyH_take (i := 5) (v := ?v5) rfl (by kernel_rfl) (by kernel_rfl) (by kernel_rfl) (fun _ _ _ h => h) (Or.inl ⟨by rfl, ?h5⟩) trivial ?_
        case h5 => intro w _; go_simp; (try rfl)
        refine wpAnyH_take (i := 6) (v := ?v6) rfl (by kernel_rfl) (by kernel_rfl) (by kernel_rfl) (fun _ _ _ h => h) (Or.inl ⟨by rfl, ?h6⟩) trivial ?_
        case h6 => intro w _; go_simp; (try rfl)
        simp only [Act.put, List.setIfInBounds_toArray]
        have hok : atOk p N = true := HOK.out.2 ⟨by omega, by rw [← hxN]; exact hx.2.2.1⟩
        have HI1 : Hid (Ints W (some ⟨g, 0, none⟩) n1 (atL p N)) := Lib.hid (by rw [atL, if_pos hok, ← HN1.out, ← hxN, ← hg]; exact (hx.1.cut hnL).ints)
        have HI2 : Hid (Ints W (if x.c = n1 then some ⟨g, 0, none⟩ else some ⟨g, n1, none⟩) ((maxesP p).length - n1) (atS p N)) := Lib.hid (by rw [atS, if_pos hok, ← HN1.out, ← hxN]; exact ints_tail (by rw [← hg]; exact hx.1) hnL hxc)
        have hd : Below W.heap.size W W.drew := ⟨rfl, rfl, rfl, Nat.le_refl _, fun _ _ => rfl⟩
        have FB2 := Lib.hid (E2.out.below hbW E2.out.lt)
        have FB3 := Lib.hid (E3.out.below hbW E3.out.lt)
        have FB4 := Lib.hid (E4.out.below hbW E4.out.lt)
        clear F0 F1
        refine wpAnyH_ready (rs := [3]) (by kernel_rfl) (by simp) ?_
        refine AllReadyH.cons rfl (fun K1 hK1 => ?_) AllReadyH.nil
        go_simp
        refine (cloneInts_any _ _ _ _ _ (HI1.out.below hd)).mono ?_
        rintro e w5 ⟨a5, m5, c5, rfl, h5, b5⟩
        have hb5 : Below W.heap.size W w5 := hd.trans b5
        refine hK1.out _ _ trivial (fun _ => ?_)
        clear hK1 K1
        refine wpAnyH_ready (rs := [7]) (by kernel_rfl) (by simp) ?_
        refine AllReadyH.cons rfl (fun K1 hK1 => ?_) AllReadyH.nil
        go_simp
        refine (cloneInts_any _ _ _ _ _ (HI2.out.below hb5)).mono ?_
        rintro e w6 ⟨a6, m6, c6, rfl, h6, b6⟩
        have hb6 : Below W.heap.size W w6 := hb5.trans (b6.mono hb5.size)
        refine hK1.out _ _ trivial (fun _ => ?_)
        clear hK1 K1
        have G2 := FB2.out.below hb6 FB2.out.lt
        have G3 := FB3.out.below hb6 FB3.out.lt
        have G4 := FB4.out.below hb6 FB4.out.lt
        have u2 := G2.cell (j := 0) rfl
        have u3 := G3.cell (j := 0) rfl
        have u4 := G4.cell (j := 0) rfl
        have q2 := G2.frozen 0
        have q3 := G3.frozen 0
        have q4 := G4.frozen 0
        have hkw := HK.out
        obtain ⟨w7, H7⟩ : ∃ z, Hid (z = w6.setCell ⟨k + 1 + 1, 0, none⟩ (.slice a5 m5 c5)) := ⟨_, rfl⟩
        obtain ⟨w8, H8⟩ : ∃ z, Hid (z = w7.setCell ⟨k + 1 + 1 + 1, 0, none⟩ (.slice a6 m6 c6)) := ⟨_, rfl⟩
        obtain ⟨w9, H9⟩ : ∃ z, Hid (z = w8.setCell ⟨k + 1 + 1 + 1 + 1, 0, none⟩ (.bool true)) := ⟨_, rfl⟩
        have y7 : w6.grownBy w7 (some (k + 1 + 1)) := by rw [H7.out]; exact grown_set _ _ _ _
        have y8 : w7.grownBy w8 (some (k + 1 + 1 + 1)) := by rw [H8.out]; exact grown_set _ _ _ _
        have y9 : w8.grownBy w9 (some (k + 1 + 1 + 1 + 1)) := by rw [H9.out]; exact grown_set _ _ _ _
        have ne : ∀ {a b : Nat}, a ≠ b → (some a : Option Nat) ≠ some b := fun h e => h (by injection e)
        have R2 : Blk w9 (k + 1 + 1) 28 [.slice a5 m5 c5] := by
          have r : Blk w7 (k + 1 + 1) 28 [.slice a5 m5 c5] := by rw [H7.out]; exact G2.set (j := 0) _
          exact blk_stay (blk_stay r y8 (ne (by omega))) y9 (ne (by omega))
        have R3 : Blk w9 (k + 1 + 1 + 1) 28 [.slice a6 m6 c6] := by
          have r0 := blk_stay G3 y7 (ne (by omega))
          have r : Blk w8 (k + 1 + 1 + 1) 28 [.slice a6 m6 c6] := by rw [H8.out]; exact r0.set (j := 0) _
          exact blk_stay r y9 (ne (by omega))
        have R4 : Blk w9 (k + 1 + 1 + 1 + 1) 4 [.bool true] := by
          have r0 := blk_stay (blk_stay G4 y7 (ne (by omega))) y8 (ne (by omega))
          rw [H9.out]; exact r0.set (j := 0) _
        have hws : W0.heap.size ≤ W.heap.size := hbW.size
        have hw5 := hb5.size
        have lo : ∀ {row : Option Nat} {j : Nat}, row = some j → j ≤ k + 1 + 1 + 1 + 1 → ∀ g', row = some g' → g' < W.heap.size := fun e hj g' e' => by rw [e] at e'; injection e'; omega
        have hsd : W.drew.heap.size = W.heap.size := rfl
        have O5 : Own w9 m a5 m5 c5 (atL p N) := ((((h5.below b6).other y7 (lo rfl (by omega))).other y8 (lo rfl (by omega))).other y9 (lo rfl (by omega))).base (by rw [hsd]; exact hmW)
        have O6 : Own w9 m a6 m6 c6 (atS p N) := ((((h6.base (B' := W.heap.size) hw5).other y7 (lo rfl (by omega))).other y8 (lo rfl (by omega))).other y9 (lo rfl (by omega))).base hmW
        have AP : ∀ g, (slV (a5, m5, c5)).ownBlock = some g → (slV (a6, m6, c6)).ownBlock ≠ some g := fun g e1 e2 => by have := (h5.block g e1).2; have := (h6.block g e2).1; omega
        have HZ : Below w.heap.size w w9 := by
          have hz6 : Below w.heap.size w w6 := (HBW.out.trans (hbW.mono HBW.out.size)).trans (hb6.mono (HBW.out.trans (hbW.mono HBW.out.size)).size)
          rw [H9.out, H8.out, H7.out]
          exact ((hz6.setCell (p := ⟨k + 1 + 1, 0, none⟩) (by simp only []; omega) _).setCell (p := ⟨k + 1 + 1 + 1, 0, none⟩) (by simp only []; omega) _).setCell (p := ⟨k + 1 + 1 + 1 + 1, 0, none⟩) (by simp only []; omega) _
        have KF : KeepsFrom W0.heap.size W w9 := by
          have kf6 : KeepsFrom W0.heap.size W w6 := ⟨hb6.size, fun i o _ hi _ => (hb6.block i (Array.getElem?_eq_some_iff.1 hi).1).trans hi⟩
          rw [H9.out, H8.out, H7.out]
          exact ((kf6.trans ((KeepsOthers.setCell _ _ _).from _)).trans ((KeepsOthers.setCell _ _ _).from _)).trans ((KeepsOthers.setCell _ _ _).from _)
        have HALL := Lib.hid (show KeepsFrom W0.heap.size W w9 ∧ StopAt k w W0 p N .ret m w9 from
          ⟨KF, rfl, (a5, m5, c5), (a6, m6, c6), R2, R3, R4, O5, O6, AP, HOK.out.2 ⟨by omega, by rw [← hxN]; exact hx.2.2.1⟩, Nat.le_trans hws KF.size, HZ, hWm⟩)
        have P7 := blk_stay G3 y7 (ne (by omega))
        have P8 := blk_stay (blk_stay G4 y7 (ne (by omega))) y8 (ne (by omega))
        have u3' := P7.cell (j := 0) rfl
        have q3' := P7.frozen 0
        have u4' := P8.cell (j := 0) rfl
        have q4' := P8.frozen 0
        rw [H9.out, H8.out, H7.out] at HALL
        rw [H7.out] at u3' q3'
        rw [H8.out, H7.out] at u4' q4'
        clear H7 H8 H9 y7 y8 y9 R2 R3 R4 O5 O6 AP HZ KF P7 P8 G2 G3 G4 u3 u4 q3 q4 lo ne hsd hkw
        refine wpAnyH_ready (rs := [8]) (by kernel_rfl) (by simp) ?_
        refine AllReadyH.cons rfl (fun K1 hK1 => ?_) AllReadyH.nil
        go_simp
        refine hK1.out _ _ trivial (fun _ => ?_)
        clear hK1 K1
        refine wpAnyH_ready (rs := [9]) (by kernel_rfl) (by simp) ?_
        refine AllReadyH.cons rfl (fun K1 hK1 => ?_) AllReadyH.nil
        go_simp
        refine hK1.out _ _ trivial (fun _ => ?_)
        clear hK1 K1
        refine wpAnyH_ready (rs := [10]) (by kernel_rfl) (by simp) ?_
        refine AllReadyH.cons rfl (fun K1 hK1 => ?_) AllReadyH.nil
        go_simp
        refine hK1.out _ _ trivial (fun _ => ?_)
        clear hK1 K1
        refine wpAnyH_done (by kernel_rfl) ?_ _
        simp only [Exit.then]
        gi_wp2
        all_goals exact HALL.out
      · have hxe : decide ((x.k : Int) = N) = false := decide_eq_false hxN
        gi_wp2
        refine ⟨KeepsFrom.refl _ _, Stay.refl _ _ _, fun y hy => ?_, hmW, hWm, hbW⟩
        rcases List.mem_append.1 hy with hy | hy
        · exact hne y hy
        · rw [List.mem_singleton] at hy; subst hy; exact hxN
    case done =>
      rintro D m xs W hD hS ⟨hne, hmW, hWm, hbW⟩ hK
      have hok : atOk p N = false := by
        cases hh : atOk p N with
        | false => rfl
        | true =>
          obtain ⟨g1, g2⟩ := HOK.out.1 hh
          have hmem : N.toNat ∈ xs.map EIn.k := by rw [show xs.map EIn.k = List.range (prodL (maxesP p)).toNat from hS]; exact List.mem_range.2 (by omega)
          obtain ⟨x, hx, hxk⟩ := List.mem_map.1 hmem
          exact absurd (show (x.k : Int) = N by omega) (hne x hx)
      have HAL : Hid (atL p N = []) := Lib.hid (by rw [atL, hok]; rfl)
      have HAS : Hid (atS p N = []) := Lib.hid (by rw [atS, hok]; rfl)
      have X2 := E2.out.below hbW E2.out.lt
      have X3 := E3.out.below hbW E3.out.lt
      have X4 := E4.out.below hbW E4.out.lt
      have u2 := X2.cell (j := 0) rfl
      have u3 := X3.cell (j := 0) rfl
      have u4 := X4.cell (j := 0) rfl
      have f2 := X2.frozen 0
      have f3 := X3.frozen 0
      have f4 := X4.frozen 0
      have HF := HBW.out.trans (hbW.mono HBW.out.size)
      have HF3 := Lib.hid (((HF.setCell (p := ⟨k + 1 + 1, 0, none⟩) (by have := HK.out; simp only []; omega) (.slice none 0 0)).setCell (p := ⟨k + 1 + 1 + 1, 0, none⟩) (by have := HK.out; simp only []; omega) (.slice none 0 0)).setCell (p := ⟨k + 1 + 1 + 1 + 1, 0, none⟩) (by have := HK.out; simp only []; omega) (.bool false))
      have HKD := Lib.hid ((KeepsOthers.setCell _ ⟨k + 1 + 1 + 1 + 1, 0, none⟩ (.bool false)).same D _ ((KeepsOthers.setCell _ ⟨k + 1 + 1 + 1, 0, none⟩ (.slice none 0 0)).same D _ ((KeepsOthers.setCell W ⟨k + 1 + 1, 0, none⟩ (.slice none 0 0)).same D _ hK rfl) rfl) rfl)
      have hks2 : k + 1 + 1 + 1 + 1 < D := by omega
      have ne : ∀ {a b : Nat}, a ≠ b → (some a : Option Nat) ≠ some b := fun h e => h (by injection e)
      obtain ⟨Z, HZ⟩ : ∃ z, Hid (z = ((W.setCell ⟨k + 1 + 1, 0, none⟩ (.slice none 0 0)).setCell ⟨k + 1 + 1 + 1, 0, none⟩ (.slice none 0 0)).setCell ⟨k + 1 + 1 + 1 + 1, 0, none⟩ (.bool false)) := ⟨_, rfl⟩
      have Z2 : Blk Z (k + 1 + 1) 28 [.slice none 0 0] := by
        have r : Blk (W.setCell ⟨k + 1 + 1, 0, none⟩ (.slice none 0 0)) (k + 1 + 1) 28 [.slice none 0 0] := X2.set (j := 0) _
        rw [HZ.out]; exact blk_stay (blk_stay r (grown_set _ _ _ _) (ne (by omega))) (grown_set _ _ _ _) (ne (by omega))
      have Z3 : Blk Z (k + 1 + 1 + 1) 28 [.slice none 0 0] := by
        have r0 : Blk (W.setCell ⟨k + 1 + 1, 0, none⟩ (.slice none 0 0)) (k + 1 + 1 + 1) 28 [.slice none 0 0] := blk_stay X3 (grown_set _ _ _ _) (ne (by omega))
        have r : Blk ((W.setCell ⟨k + 1 + 1, 0, none⟩ (.slice none 0 0)).setCell ⟨k + 1 + 1 + 1, 0, none⟩ (.slice none 0 0)) (k + 1 + 1 + 1) 28 [.slice none 0 0] := r0.set (j := 0) _
        rw [HZ.out]; exact blk_stay r (grown_set _ _ _ _) (ne (by omega))
      have Z4 : Blk Z (k + 1 + 1 + 1 + 1) 4 [.bool false] := by
        have r0 := blk_stay (blk_stay X4 (grown_set W (k + 1 + 1) 0 (.slice none 0 0)) (ne (by omega))) (grown_set _ (k + 1 + 1 + 1) 0 (.slice none 0 0)) (ne (by omega))
        rw [HZ.out]; exact r0.set (j := 0) _
      have M2 : Blk (Z.putObj D (.deferred none)) (k + 1 + 1) 28 [.slice none 0 0] := (World.putObj_heap_other (by omega)).trans Z2
      have M3 : Blk (Z.putObj D (.deferred none)) (k + 1 + 1 + 1) 28 [.slice none 0 0] := (World.putObj_heap_other (by omega)).trans Z3
      have M4 : Blk (Z.putObj D (.deferred none)) (k + 1 + 1 + 1 + 1) 4 [.bool false] := (World.putObj_heap_other (by omega)).trans Z4
      have m2 := M2.cell (j := 0) rfl
      have m3 := M3.cell (j := 0) rfl
      have m4 := M4.cell (j := 0) rfl
      have HZD : Hid (Below w.heap.size w (Z.putObj D (.deferred none))) := Lib.hid (by
        have hz : Below w.heap.size w Z := by rw [HZ.out]; exact HF3.out
        have hk := HK.out
        exact hz.trans ⟨rfl, rfl, rfl, by simp, fun i hi => World.putObj_heap_other (by omega)⟩)
      have HKZ : Hid (Z.heap[D]? = some (.deferred (some []))) := Lib.hid (by rw [HZ.out]; exact HKD.out)
      have HZ' := Lib.hid HZ.out.symm
      clear HF X2 X3 X4 hne Z2 Z3 Z4 M2 M3 M4 HKD HF3 ne HZ
      gi_wp2
      rw [HZ'.out]
      refine ⟨by simp, .inl ⟨_, _, rfl, run_takeDeferred HKZ.out, ?_⟩⟩
      refine ⟨.tuple #[.slice none 0 0, .slice none 0 0, .bool false], ?_, HZD.out, (none, 0, 0), (none, 0, 0), by rw [hok]; rfl, by rw [HAL.out]; exact own_nil _ _, by rw [HAS.out]; exact own_nil _ _, fun g hg => by cases hg⟩
      rw [results_cell3 rfl]
      go_simp
    case stop =>
      rintro D m c pre W hD hSp ⟨rfl, ⟨s1, s2, s3⟩, ⟨q1, q2, q3⟩, h1, h2, h3, h4, h5, h6, h7, h8, h9, h10⟩ hK
      have M2 : Blk (W.putObj D (.deferred none)) (k + 1 + 1) 28 [.slice s1 s2 s3] := (World.putObj_heap_other (by omega)).trans h1
      have M3 : Blk (W.putObj D (.deferred none)) (k + 1 + 1 + 1) 28 [.slice q1 q2 q3] := (World.putObj_heap_other (by omega)).trans h2
      have M4 : Blk (W.putObj D (.deferred none)) (k + 1 + 1 + 1 + 1) 4 [.bool true] := (World.putObj_heap_other (by omega)).trans h3
      have m2 := M2.cell (j := 0) rfl
      have m3 := M3.cell (j := 0) rfl
      have m4 := M4.cell (j := 0) rfl
      have HKW := HK.out
      have HOS : Hid (Own (W.putObj D (.deferred none)) w.heap.size s1 s2 s3 (atL p N)) := Lib.hid (own_put_def (h4.base (by have := HBW.out.size; omega)) hK)
      have HOT : Hid (Own (W.putObj D (.deferred none)) w.heap.size q1 q2 q3 (atS p N)) := Lib.hid (own_put_def (h5.base (by have := HBW.out.size; omega)) hK)
      have HZD : Hid (Below w.heap.size w (W.putObj D (.deferred none))) := Lib.hid (h9.trans ⟨rfl, rfl, rfl, by simp, fun i hi => World.putObj_heap_other (by omega)⟩)
      have H6 := Lib.hid h6
      have H7 := Lib.hid h7
      clear h1 h2 h3 h4 h5 h6 h7 h8 h9 h10 M2 M3 M4 HKW hSp
      gi_wp2
      refine ⟨by simp, .inl ⟨_, _, rfl, run_takeDeferred hK, ?_⟩⟩
      refine ⟨.tuple #[.slice s1 s2 s3, .slice q1 q2 q3, .bool true], ?_, HZD.out, (s1, s2, s3), (q1, q2, q3), by rw [H7.out]; rfl, HOS.out, HOT.out, H6.out⟩
      rw [results_cell3 rfl]
      go_simp
end Go.Proofs.Ytalcambmmbilkaa
/- The contracts of the model's l7Maxes, l7Count, InputsIn and BitsIn. -/
namespace Go.Proofs.Ytalcambmmbilkaa
open Go.RowKit

theorem max_in {ts : List Tm} {k : Nat} (hs : Small ts) (hk : k < ts.length) {x y : Int} (hz : Hid (tmAt ts k = (x, y))) : In64 x := by
  have := hs k hk
  rw [hz.out] at this
  exact ⟨by simp only [] at this; omega, by simp only [] at this; omega⟩
theorem maxes_succ {ts : List Tm} {k : Nat} {x y : Int} (hk : k < ts.length) (hz : Hid (tmAt ts k = (x, y))) : maxesL (ts.take (k + 1)) = maxesL (ts.take k) ++ [x] := by
  have e : ts[k] = (x, y) := by have := hz.out; simpa [tmAt, List.getD_eq_getElem?_getD, List.getElem?_eq_getElem hk] using this
  simp [maxesL, List.take_add_one, List.getElem?_eq_getElem hk, e]
set_option maxHeartbeats 1600000 in
theorem l7Maxes_any (r : PRow) (p : Prg) (w : World) (h : ProgAt w r p) (hl1 : p.lows.length ≤ 3) (hl2 : p.secrets.length ≤ 3) :
    Calls Try.prog 53 #[progV r] w (MadeInts w (maxesP p)) := by
  obtain ⟨wd, ⟨a1, n1, c1⟩, ⟨a2, n2, c2⟩, tp, ⟨a3, n3, c3⟩, ⟨a4, n4, c4⟩, rows⟩ := r
  show Calls Try.prog 53 #[.agg #[.int .i64 wd, .slice a1 n1 c1, .slice a2 n2 c2, .int .i64 tp, .slice a3 n3 c3, .slice a4 n4 c4]] w _
  have h1 := h.lows
  have h2 := h.secrets
  simp only [] at h1 h2
  have L1 := Lib.hid h1.1
  have L2 := Lib.hid h2.1
  have hn1 : n1 ≤ 3 := by rw [← L1.out]; exact hl1
  have hn2 : n2 ≤ 3 := by rw [← L2.out]; exact hl2
  have H1 := Lib.hid h1
  have H2 := Lib.hid h2
  clear h h1 h2 hl1 hl2
  obtain ⟨wa, HW⟩ : ∃ wa, Hid (wa = w.alloc (.cells #[.int .i64 wd, .slice a1 n1 c1, .slice a2 n2 c2, .int .i64 tp, .slice a3 n3 c3, .slice a4 n4 c4] 31)) := ⟨_, rfl⟩
  have BX : Blk wa w.heap.size 31 [.int .i64 wd, .slice a1 n1 c1, .slice a2 n2 c2, .int .i64 tp, .slice a3 n3 c3, .slice a4 n4 c4] := by rw [HW.out]; exact Blk.new w _ _
  have HB : Below w.heap.size w wa := by rw [HW.out]; exact (Below.refl _ _).alloc (Nat.le_refl _) _
  have H1 := Lib.hid (H1.out.below (Nat.le_refl _) HB)
  have H2 := Lib.hid (H2.out.below (Nat.le_refl _) HB)
  have HX := Lib.hid BX
  have HSZ : Hid (wa.heap.size = w.heap.size + 1) := Lib.hid (by rw [HW.out]; simp)
  clear BX
  go_enter Try.func53, Try.ntmps53
  go_wp2_with fail
  rw [← HW.out]
  go_loopw [3, 4] (fun v i wr => ∃ (k : Nat) (a : Option Addr) (c : Nat), k ≤ n1 ∧ i = .int .i64 k ∧ v = .slice a k c ∧ Own wr wa.heap.size a k c (maxesL (p.lows.take k)) ∧ Below wa.heap.size wa wr) (fun _ i _ => n1 - (intOf i).toNat)
  case atStart => exact ⟨0, _, _, by omega, rfl, rfl, by have := own_empty wa wa.heap.size (Nat.le_refl _); simpa [HSZ.out, maxesL] using this, (Below.refl _ _).alloc (Nat.le_refl _) _⟩
  case round =>
    obtain ⟨k, a, c, hk, rfl, rfl, hown, hbel⟩ := hrel
    have hbs := hbel.size
    have t1 := (HX.out.below hbel HX.out.lt).cell (j := 1) rfl
    by_cases hlt : k < n1
    · obtain ⟨b, o, x, y, rfl, hb, hz, hin1, hin2, hc1, hc2⟩ := (H1.out.below (Nat.le_refl _) hbel).at_ hlt
      clear hc2 hin2
      go_wp2_with (at_builtin; refine wpList_push _ rfl _ _ rfl wa.heap.size _ _ _ (maxesL (p.lows.take k)) rfl (hown.alloc _) wr.heap.size x rfl (by simp) hin1 (by omega) (by simp; omega) ?_)
      intro a8 c8 w8 hown8 hg8
      have hb8 := below_push (hbel.alloc hbs _) (hown.alloc _) (by simp; omega) hg8
      rw [← maxes_succ (by rw [L1.out]; exact hlt) hz] at hown8
      clear hown hg8 hbel t1 hc1
      go_wp2
      go_roundw
      case rel => exact ⟨k + 1, a8, c8, by omega, by go_num, rfl, hown8, hb8⟩
      case measure => simp [intOf]; omega
    · obtain rfl : n1 = k := by omega
      have HO : Hid (Own wr wa.heap.size a n1 c (maxesL p.lows ++ maxesL (p.secrets.take 0))) := Lib.hid (by
        rw [List.take_of_length_le (by rw [L1.out]; exact Nat.le_refl _)] at hown
        simpa [maxesL] using hown)
      have HBE := Lib.hid hbel
      clear hown hbel
      go_wp2_with fail
      go_loopw [3, 5] (fun v i wr => ∃ (k : Nat) (a : Option Addr) (c : Nat), k ≤ n2 ∧ i = .int .i64 k ∧ v = .slice a (n1 + k) c ∧ Own wr wa.heap.size a (n1 + k) c (maxesL p.lows ++ maxesL (p.secrets.take k)) ∧ Below wa.heap.size wa wr) (fun _ i _ => n2 - (intOf i).toNat)
      case atStart => exact ⟨0, _, _, by omega, rfl, rfl, HO.out, HBE.out⟩
      case round =>
        clear HO HBE t1
        obtain ⟨k, a, c, hk, rfl, rfl, hown, hbel⟩ := hrel
        have hbs := hbel.size
        have t2 := (HX.out.below hbel HX.out.lt).cell (j := 2) rfl
        by_cases hlt : k < n2
        · obtain ⟨b, o, x, y, rfl, hb, hz, hin1, hin2, hc1, hc2⟩ := (H2.out.below (Nat.le_refl _) hbel).at_ hlt
          clear hc2 hin2
          go_wp2_with (at_builtin; refine wpList_push _ rfl _ _ rfl wa.heap.size _ _ _ (maxesL p.lows ++ maxesL (p.secrets.take k)) rfl (hown.alloc _) wr.heap.size x rfl (by simp) hin1 (by omega) (by simp; omega) ?_)
          intro a8 c8 w8 hown8 hg8
          have hb8 := below_push (hbel.alloc hbs _) (hown.alloc _) (by simp; omega) hg8
          rw [← maxes_succ (by rw [L2.out]; exact hlt) hz] at hown8
          clear hown hg8 hbel t2 hc1
          go_wp2
          go_roundw
          case rel => exact ⟨k + 1, a8, c8, by omega, by go_num, rfl, hown8, hb8⟩
          case measure => simp [intOf]; omega
        · obtain rfl : n2 = k := by omega
          rw [List.take_of_length_le (by rw [L2.out]; exact Nat.le_refl _), show maxesL p.lows ++ maxesL p.secrets = maxesP p by simp [maxesP, maxesL]] at hown
          have hown := hown.base HB.size
          have hbel := HB.trans (hbel.mono HB.size)
          go_wp2
          go_ret
          exact ⟨_, _, _, rfl, hown, hbel⟩
set_option maxHeartbeats 800000 in
theorem l7Count_any (a : Option Addr) (n c : Nat) (ms : List Int) (w : World) (h : Ints w a n ms) (hm : MaxOk ms) :
    Calls Try.prog 52 #[.slice a n c] w fun e w' => e = .returned (.int .i64 (countTo ms ms.length)) ∧ w = w' := by
  have HL := Lib.hid h.1
  have HM := Lib.hid hm
  have hn : n ≤ 6 := by rw [← HL.out]; exact hm.1
  clear hm
  go_enter Try.func52, Try.ntmps52
  go_wp2
  go_loop [3, 4] (fun q i => ∃ k : Nat, k ≤ n ∧ i = .int .i64 (k : Int) ∧ q = .int .i64 (countTo ms k)) (fun _ i => n - (intOf i).toNat)
  case atStart => exact ⟨0, Nat.zero_le _, rfl, rfl⟩
  case round =>
    obtain ⟨k, hk, rfl, rfl⟩ := hrel
    by_cases hlt : k < n
    · obtain ⟨b, o, z, rfl, hb, hz, hin, hc⟩ := h.at_ hlt
      obtain ⟨p1, p2⟩ := countTo_pos HM.out k (by rw [HL.out]; omega)
      obtain ⟨p3, p4⟩ := countTo_pos HM.out (k + 1) (by rw [HL.out]; omega)
      obtain ⟨z1, z2⟩ := HM.out.2 k (by rw [HL.out]; exact hlt)
      rw [← hz.out] at z1 z2
      have q1 : 256 ^ k ≤ 256 ^ 6 := Nat.pow_le_pow_right (by omega) (by omega)
      have q2 : 256 ^ (k + 1) ≤ 256 ^ 6 := Nat.pow_le_pow_right (by omega) (by omega)
      have HS : Hid (countTo ms (k + 1) = countTo ms k * (z + 1)) := Lib.hid (by rw [countTo, hz.out])
      rw [HS.out] at p3 p4
      have b2 : countTo ms k ≤ 281474976710656 := by omega
      have b4 : countTo ms k * (z + 1) ≤ 281474976710656 := by omega
      clear p2 p4 q1 q2
      generalize countTo ms k = Q at p1 p3 b2 b4 HS ⊢
      go_wp2
      go_round
      case rel => exact ⟨k + 1, by omega, by go_num, by rw [HS.out]⟩
      case measure => simp [intOf]; omega
    · obtain rfl : n = k := by omega
      go_wp2
      go_ret
      exact ⟨ret_int (by rw [HL.out]), rfl⟩
set_option maxHeartbeats 800000 in
theorem specInputsIn_any (r : PRow) (p : Prg) (w : World) (h : ProgAt w r p) :
    Calls Try.prog 20 #[progV r] w fun e w' => e = .returned (.int .i64 (countB p)) ∧ Below w.heap.size w w' := by
  have HC : Hid (∀ w', Below w.heap.size w w' → Calls Try.prog 17 #[progV r] w' fun e w'' => e = .returned (.bool (codeB p == 0)) ∧ Below w'.heap.size w' w'') := Lib.hid (fun w' hw => specProgOk_any r p w' (h.below hw))
  have HM : Hid (codeB p = 0 → ∀ w', Below w.heap.size w w' → Calls Try.prog 53 #[progV r] w' (MadeInts w' (maxesP p))) := Lib.hid (fun hz w' hw => l7Maxes_any r p w' (h.below hw) (code_inputs hz).1 (code_inputs hz).2.1)
  obtain ⟨S, HS⟩ : ∃ S, Hid (countB p = S) := ⟨_, rfl⟩
  rw [HS.out]
  obtain ⟨wd, ⟨a1, n1, c1⟩, ⟨a2, n2, c2⟩, tp, ⟨a3, n3, c3⟩, ⟨a4, n4, c4⟩, rows⟩ := r
  show Calls Try.prog 20 #[.agg #[.int .i64 wd, .slice a1 n1 c1, .slice a2 n2 c2, .int .i64 tp, .slice a3 n3 c3, .slice a4 n4 c4]] w _
  clear h
  obtain ⟨wa, HW⟩ : ∃ wa, Hid (wa = w.alloc (.cells #[.int .i64 wd, .slice a1 n1 c1, .slice a2 n2 c2, .int .i64 tp, .slice a3 n3 c3, .slice a4 n4 c4] 31)) := ⟨_, rfl⟩
  have B : Blk wa w.heap.size 31 [.int .i64 wd, .slice a1 n1 c1, .slice a2 n2 c2, .int .i64 tp, .slice a3 n3 c3, .slice a4 n4 c4] := by rw [HW.out]; exact Blk.new w _ _
  have HB : Below w.heap.size w wa := by rw [HW.out]; exact (Below.refl _ _).alloc (Nat.le_refl _) _
  by_cases hz : codeB p = 0
  · have hzz : (codeB p == 0) = true := by simpa using hz
    rw [hzz] at HC
    have HMX := Lib.hid (code_max hz)
    have hS : countTo (maxesP p) (maxesP p).length = S := by rw [← HS.out, countB, if_pos hz]
    have HM := Lib.hid (HM.out hz)
    clear hz hzz HS
    go_enter Try.func20, Try.ntmps20
    go_wp2_with fail
    rw [← HW.out]
    refine (HC.out _ HB).mono ?_
    rintro e w1 ⟨rfl, hb1⟩
    have B := B.below hb1 B.lt
    have HB := HB.trans (hb1.mono HB.size)
    have t0 := B.cell (j := 0) rfl
    have t1 := B.cell (j := 1) rfl
    have t2 := B.cell (j := 2) rfl
    have t3 := B.cell (j := 3) rfl
    have t4 := B.cell (j := 4) rfl
    have t5 := B.cell (j := 5) rfl
    go_wp2_with fail
    refine (HM.out _ HB).mono ?_
    rintro e w2 ⟨sa, sn, sc, rfl, ho, hb2⟩
    have HB := HB.trans (hb2.mono HB.size)
    clear t0 t1 t2 t3 t4 t5 B hb1 hb2
    go_wp2_with fail
    refine (l7Count_any _ _ _ _ _ ho.ints HMX.out).mono ?_
    rintro e w3 ⟨rfl, rfl⟩
    rw [hS]
    clear ho hS
    go_wp2
    go_ret
    exact ⟨rfl, HB⟩
  · have hzz : (codeB p == 0) = false := by simpa using hz
    rw [hzz] at HC
    have hS : S = -1 := by rw [← HS.out, countB, if_neg hz]
    subst hS
    clear hz hzz HS HM
    go_enter Try.func20, Try.ntmps20
    go_wp2_with fail
    rw [← HW.out]
    refine (HC.out _ HB).mono ?_
    rintro e w1 ⟨rfl, hb1⟩
    have HB := HB.trans (hb1.mono HB.size)
    go_wp2
    go_ret
    exact ⟨rfl, HB⟩
set_option maxHeartbeats 800000 in
theorem specBitsIn_any (r : PRow) (p : Prg) (w : World) (h : ProgAt w r p) :
    Calls Try.prog 25 #[progV r] w fun e w' => e = .returned (.int .i64 (bitsInB p)) ∧ Below w.heap.size w w' := by
  have HC : Hid (∀ w', Below w.heap.size w w' → Calls Try.prog 17 #[progV r] w' fun e w'' => e = .returned (.bool (codeB p == 0)) ∧ Below w'.heap.size w' w'') := Lib.hid (fun w' hw => specProgOk_any r p w' (h.below hw))
  obtain ⟨S, HS⟩ : ∃ S, Hid (bitsInB p = S) := ⟨_, rfl⟩
  rw [HS.out]
  have HM : Hid (codeB p = 0 → ∀ w', Below w.heap.size w w' → Calls Try.prog 58 #[progV r] w' fun e w'' => e = .returned (.int .i64 S) ∧ Below w'.heap.size w' w'') := Lib.hid (fun hz w' hw => (l3AllBits_any r p w' (h.below hw)).mono (fun e w'' hh => ⟨by rw [hh.1, ← HS.out, bitsInB, if_pos hz], hh.2⟩))
  obtain ⟨wd, ⟨a1, n1, c1⟩, ⟨a2, n2, c2⟩, tp, ⟨a3, n3, c3⟩, ⟨a4, n4, c4⟩, rows⟩ := r
  show Calls Try.prog 25 #[.agg #[.int .i64 wd, .slice a1 n1 c1, .slice a2 n2 c2, .int .i64 tp, .slice a3 n3 c3, .slice a4 n4 c4]] w _
  clear h
  obtain ⟨wa, HW⟩ : ∃ wa, Hid (wa = w.alloc (.cells #[.int .i64 wd, .slice a1 n1 c1, .slice a2 n2 c2, .int .i64 tp, .slice a3 n3 c3, .slice a4 n4 c4] 31)) := ⟨_, rfl⟩
  have B : Blk wa w.heap.size 31 [.int .i64 wd, .slice a1 n1 c1, .slice a2 n2 c2, .int .i64 tp, .slice a3 n3 c3, .slice a4 n4 c4] := by rw [HW.out]; exact Blk.new w _ _
  have HB : Below w.heap.size w wa := by rw [HW.out]; exact (Below.refl _ _).alloc (Nat.le_refl _) _
  by_cases hz : codeB p = 0
  · have hzz : (codeB p == 0) = true := by simpa using hz
    rw [hzz] at HC
    have HM := Lib.hid (HM.out hz)
    clear hz hzz HS
    go_enter Try.func25, Try.ntmps25
    go_wp2_with fail
    rw [← HW.out]
    refine (HC.out _ HB).mono ?_
    rintro e w1 ⟨rfl, hb1⟩
    have B := B.below hb1 B.lt
    have HB := HB.trans (hb1.mono HB.size)
    have t0 := B.cell (j := 0) rfl
    have t1 := B.cell (j := 1) rfl
    have t2 := B.cell (j := 2) rfl
    have t3 := B.cell (j := 3) rfl
    have t4 := B.cell (j := 4) rfl
    have t5 := B.cell (j := 5) rfl
    go_wp2_with fail
    refine (HM.out _ HB).mono ?_
    rintro e w2 ⟨rfl, hb2⟩
    have HB := HB.trans (hb2.mono HB.size)
    clear t0 t1 t2 t3 t4 t5 B hb1 hb2
    go_wp2
    go_ret
    exact ⟨rfl, HB⟩
  · have hzz : (codeB p == 0) = false := by simpa using hz
    rw [hzz] at HC
    have hS : S = -1 := by rw [← HS.out, bitsInB, if_neg hz]
    subst hS
    clear hz hzz HS HM
    go_enter Try.func25, Try.ntmps25
    go_wp2_with fail
    rw [← HW.out]
    refine (HC.out _ HB).mono ?_
    rintro e w1 ⟨rfl, hb1⟩
    have HB := HB.trans (hb1.mono HB.size)
    go_wp2
    go_ret
    exact ⟨rfl, HB⟩
end Go.Proofs.Ytalcambmmbilkaa
