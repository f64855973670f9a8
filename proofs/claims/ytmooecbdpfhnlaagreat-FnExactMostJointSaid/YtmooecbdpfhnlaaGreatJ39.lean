/- The contract of the program's mostWith. -/
import Derived.Test.YtmooecbdpfhnlaaGreatJ38
namespace Go.Proofs.YtmooecbdpfhnlaaGreat
open Go.RowKit Go.Shelf
attribute [local go_sem] Oper.semAt_some

/-- Between two rounds. -/
def GoMost (W0 : World) (mb kq : Nat) (p : Prg) (fs : List Bool) (m : Nat) (pre : List EIn) (W : World) : Prop :=
  (∀ x ∈ pre, (x.k : Int) < prodL (maxesP p)) ∧ m ≤ W.heap.size ∧ W0.heap.size ≤ m ∧ Turn (fun i => i = mb ∨ i = kq ∨ W0.heap.size ≤ i) W0 W ∧ Blk W kq 3 [.int .i64 ((mostK p fs (pre.map EIn.k) : Nat) : Int)] ∧ ∃ es Ds, Reg W mb m p fs (pre.map EIn.k) es Ds
theorem GoMost.span {W0 A B : World} {mb kq m : Nat} {p : Prg} {fs : List Bool} {pre : List EIn} (h : GoMost W0 mb kq p fs m pre A) (hs : Span W0.heap.size m A B) (h1 : mb < W0.heap.size) (h2 : kq < W0.heap.size) : GoMost W0 mb kq p fs m pre B := by
  obtain ⟨q1, q2, q3, q4, q5, es, Ds, q6⟩ := h
  exact ⟨q1, Nat.le_trans q2 hs.size, q3, q4.trans (Turn.of_span hs (fun i h1 _ => .inr (.inr h1))), q5.span hs (.inl h2), es, Ds, q6.keep (Turn.of_span (D := fun i => W0.heap.size ≤ i ∧ i < m) hs (fun i h1 h2 => ⟨h1, h2⟩)) (by omega) (fun _ h1 _ h2 => by omega)⟩
theorem selO_sub (p : Prg) {f : Nat → Bool} {ks : List Nat} (hz : codeB p = 0) (hk : ∀ k ∈ ks, (k : Int) < prodL (maxesP p)) : (selO p f ks).length ≤ 1024 := by
  have h1024 := prod_bits hz
  have hs : ∀ o ∈ selO p f ks, o ∈ tabOut p (prodL (maxesP p)).toNat := by
    intro o ho
    obtain ⟨k, hk', rfl⟩ := List.mem_map.1 ((mem_diffL _).1 ho)
    exact List.mem_map.2 ⟨k, List.mem_range.2 (by have := hk k (List.mem_filter.1 hk').1; omega), rfl⟩
  have := nodup_sub_len (diffL_nodup _) hs
  rw [tabOut, List.length_map, List.length_range] at this
  have hl : (selO p f ks).length ≤ (prodL (maxesP p)).toNat := this
  omega
theorem mostK_small (p : Prg) (fs : List Bool) {ks : List Nat} (hz : codeB p = 0) (hk : ∀ k ∈ ks, (k : Int) < prodL (maxesP p)) : mostK p fs ks ≤ 1024 :=
  mostTo_le _ (fun _ _ => selO_sub p hz (fun k hk' => hk k (List.mem_of_mem_take hk')))
theorem reg_none {W : World} {mb m : Nat} (p : Prg) (fs : List Bool) (h : MapW W mb [] []) : Reg W mb m p fs [] [] (fun _ _ => False) :=
  ⟨h, fun _ he => absurd he (by simp), List.nodup_nil, fun _ hk => absurd hk (by simp), fun j κ b hj => by simp at hj, fun i _ hi => absurd hi (by simp)⟩
theorem Reg.one {W : World} {mb m : Nat} {p : Prg} {fs : List Bool} {ks : List Nat} {es : List (List Int × Nat)} {Ds : Nat → Nat → Prop} (h : Reg W mb m p fs ks es Ds) {i j : Nat} {κ : List Int} {b b' : Nat} (hi : es[i]? = some (κ, b)) (hj : es[j]? = some (κ, b')) : i = j ∧ b = b' := by
  have e := nodup_at h.nodup (x := κ) (i := i) (j := j) (by rw [List.getElem?_map, hi]; rfl) (by rw [List.getElem?_map, hj]; rfl)
  subst e
  rw [hi] at hj
  simp only [Option.some.injEq, Prod.mk.injEq] at hj
  exact ⟨rfl, hj.2⟩
theorem most_round {zc : World} {mb m j b : Nat} {p : Prg} {fs : List Bool} {ks : List Nat} {es : List (List Int × Nat)} {Ds : Nat → Nat → Prop} {κ : List Int} {x : EIn} {r : PRow} (HR : Reg zc mb m p fs ks es Ds) (hj : es[j]? = some (κ, b)) (hk : keyN p fs x.k = κ) (hm : m ≤ zc.heap.size) (hmb : mb < m)
    (hp : ProgAt zc r p) (hcap : r.body.2.1 ≤ r.body.2.2) (hz : codeB p = 0) (hi : Ints zc x.a (maxesP p).length (digs (maxesP p) (x.k : Int))) (hxc : (maxesP p).length ≤ x.c) (hg : ∃ g, x.a = some ⟨g, 0, none⟩) (hok : atOk p (x.k : Int) = true) (hall : ∀ k ∈ ks ++ [x.k], (k : Int) < prodL (maxesP p)) :
    Calls Tryz.prog 62 #[.pointer (some ⟨b, 0, none⟩), progV r, .slice x.a (maxesP p).length x.c] zc fun e w' => e = .returned (.tuple #[]) ∧ Turn (fun i => Ds j i ∨ zc.heap.size ≤ i) zc w' ∧ (∃ Ds', Reg w' mb m p fs (ks ++ [x.k]) es Ds') ∧
      ∃ (m' : Nat) (a : Option Addr) (n c : Nat), Blk w' b 104 [.map (some m'), .slice a n c] ∧ (selO p (fun k => decide (keyN p fs k = keyN p fs x.k)) (ks ++ [x.k])).length = n := by
  obtain ⟨g, hg⟩ := hg
  obtain ⟨s1, s2, s3⟩ := HR.sets j κ b hj
  have hset := s1.widen (D' := fun i => Ds j i ∨ zc.heap.size ≤ i) (fun i hi => .inl hi)
  have hs := at_start hok
  have e1 : atL p (x.k : Int) = (digs (maxesP p) (x.k : Int)).take p.lows.length := by rw [atL, if_pos hok]
  have e2 : atS p (x.k : Int) = (digs (maxesP p) (x.k : Int)).drop p.lows.length := by rw [atS, if_pos hok]
  rw [e1, e2] at hs
  rw [hg] at hi ⊢
  have hll : p.lows.length ≤ (maxesP p).length := by rw [maxesP_len]; omega
  have hfew : (selO p (fun k => decide (keyN p fs k = κ)) ks).length ≤ 100000 := Nat.le_trans (selO_sub p hz (fun k hk => hall k (List.mem_append_left _ hk))) (by omega)
  obtain ⟨os, hos⟩ : ∃ os, selO p (fun k => decide (keyN p fs k = κ)) ks = os := ⟨_, rfl⟩
  obtain ⟨zs, hzs⟩ : ∃ zs, digs (maxesP p) (x.k : Int) = zs := ⟨_, rfl⟩
  rw [hos] at hset hfew
  rw [hzs] at hs hi e1 e2
  refine (addRun_any zc (fun i => Ds j i ∨ zc.heap.size ≤ i) m zc.heap.size b os r p g (maxesP p).length x.c zs hset (fun i hi => .inr hi) hm hp hcap hi hxc hll hs hfew).mono ?_
  rintro e w' ⟨rfl, h2, h3⟩
  rw [← e1, ← e2, ← hos] at h2
  have hsel : selO p (fun k => decide (keyN p fs k = keyN p fs x.k)) (ks ++ [x.k]) = addNew (selO p (fun k => decide (keyN p fs k = κ)) ks) (ocAt p x.k) := by
    rw [hk]
    unfold selO
    rw [List.filter_append, List.map_append]
    simp [hk, diffL_snoc]
  refine ⟨rfl, h3, HR.more hj hk hm hmb h2 h3, ?_⟩
  obtain ⟨m', a, n, c, rs, q1, _, _, _, q5, _⟩ := h2
  exact ⟨m', a, n, c, q1, by rw [hsel]; exact q5.2.2.1⟩
theorem most_end {W0 W zc z5 : World} {mb kq m k : Nat} {p : Prg} {fs : List Bool} {pre : List EIn} {x : EIn} {es : List (List Int × Nat)} {Ds : Nat → Nat → Prop} {D : Nat → Prop} (HG : GoMost W0 mb kq p fs m pre W) (hx : (x.k : Int) < prodL (maxesP p)) (h1 : mb < W0.heap.size) (h2 : kq < W0.heap.size) (h3 : kq ≠ mb)
    (ht : Turn (fun i => i = mb) W zc) (ht5 : Turn D zc z5) (hD1 : ∀ i, i < W0.heap.size → ¬ D i) (hD2 : ∀ i, W0.heap.size ≤ i → i < m → ¬ D i) (hr : Reg z5 mb m p fs (pre.map EIn.k ++ [x.k]) es Ds) (hb : Blk z5 kq 3 [.int .i64 (k : Int)]) (M : Nat) (hM : mostK p fs ((pre ++ [x]).map EIn.k) = M) :
    W.heap.size ≤ ((z5.setCell ⟨kq, 0, none⟩ (.int .i64 (M : Int))).drew).heap.size ∧ Stay W0.heap.size m W ((z5.setCell ⟨kq, 0, none⟩ (.int .i64 (M : Int))).drew) ∧ GoMost W0 mb kq p fs m (pre ++ [x]) ((z5.setCell ⟨kq, 0, none⟩ (.int .i64 (M : Int))).drew) := by
  obtain ⟨g1, g2, g3, g4, g5, _⟩ := HG
  have hg9 := grown_set z5 kq 0 (.int .i64 (M : Int))
  have t9 : Turn (fun i => i = kq) z5 ((z5.setCell ⟨kq, 0, none⟩ (.int .i64 (M : Int))).drew) := (Turn.of_grown hg9 (fun g e => by injection e with e; exact e.symm)).trans (Turn.of_below ⟨rfl, rfl, rfl, Nat.le_refl _, fun _ _ => rfl⟩)
  have hs1 := ht.size
  have hs2 := ht5.size
  have hs3 := t9.size
  refine ⟨by omega, fun i i1 i2 => ?_, ?_, by omega, g3, ?_, ?_, es, Ds, ?_⟩
  · rw [t9.block i (by omega) (by omega), ht5.block i (by omega) (hD2 i i1 i2), ht.block i (by omega) (by omega)]
  · intro y hy
    rcases List.mem_append.1 hy with hy | hy
    · exact g1 y hy
    · rw [List.mem_singleton] at hy; subst hy; exact hx
  · refine ((g4.trans (ht.mono (fun i e => .inl e))).trans (ht5.mono (fun i hi => ?_))).trans (t9.mono (fun i e => .inr (.inl e)))
    rcases Nat.lt_or_ge i W0.heap.size with hlt | hge
    · exact absurd hi (hD1 i hlt)
    · exact .inr (.inr hge)
  · rw [hM]
    exact hb.set (j := 0) _
  · rw [List.map_append, List.map_singleton]
    exact hr.keep t9 (fun e => h3 e.symm) (fun i hi _ e => by omega)
set_option maxRecDepth 100000 in
set_option maxHeartbeats 4000000 in
theorem mostWith_any (r : PRow) (p : Prg) (af : Option Addr) (nf cf : Nat) (fs : List Bool) (w : World) (h : ProgAt w r p) (hcap : r.body.2.1 ≤ r.body.2.2) (hz : codeB p = 0) (hf : Bools w af nf fs) (hnf : nf = p.lows.length + p.secrets.length) :
    Calls Tryz.prog 66 #[progV r, .slice af nf cf] w fun e w' => e = .returned (.int .i64 ((mostTo (runN (keyN p fs) (ocAt p)) (prodL (maxesP p)).toNat : Nat) : Int)) ∧ Below w.heap.size w w' := by
  obtain ⟨l1, l2, _, _⟩ := code_inputs hz
  have HMX := Lib.hid (wide_of_max hz)
  have hlen : p.lows.length + p.secrets.length ≤ 6 := by omega
  have HML : Hid ((maxesP p).length = p.lows.length + p.secrets.length) := Lib.hid (maxesP_len p)
  have HNF := Lib.hid hnf
  have HP := Lib.hid h
  have HBF := Lib.hid hf
  have HCAP := Lib.hid hcap
  have HZZ := Lib.hid hz
  rw [← mostK_range]
  clear h hcap hz hf hnf l1 l2
  obtain ⟨wd, ⟨a1, n1, c1⟩, ⟨a2, n2, c2⟩, tp, ⟨a3, n3, c3⟩, ⟨a4, n4, c4⟩, rows⟩ := r
  show Calls Tryz.prog 66 #[.agg #[.int .i64 wd, .slice a1 n1 c1, .slice a2 n2 c2, .int .i64 tp, .slice a3 n3 c3, .slice a4 n4 c4], .slice af nf cf] w _
  obtain ⟨k, HK⟩ : ∃ k, Hid (w.heap.size = k) := ⟨_, rfl⟩
  obtain ⟨v1, V1⟩ : ∃ v, Hid (v = w.alloc (.cells #[.int .i64 wd, .slice a1 n1 c1, .slice a2 n2 c2, .int .i64 tp, .slice a3 n3 c3, .slice a4 n4 c4] 31)) := ⟨_, rfl⟩
  obtain ⟨v2, V2⟩ : ∃ v, Hid (v = v1.alloc (.cells #[.slice af nf cf] 39)) := ⟨_, rfl⟩
  obtain ⟨v3, V3⟩ : ∃ v, Hid (v = v2.alloc (.map #[] 0)) := ⟨_, rfl⟩
  obtain ⟨v4, V4⟩ : ∃ v, Hid (v = v3.alloc (.cells #[.map (some (k + 1 + 1))] 150)) := ⟨_, rfl⟩
  obtain ⟨wa, V5⟩ : ∃ v, Hid (v = v4.alloc (.cells #[.int .i64 0] 3)) := ⟨_, rfl⟩
  have s1 : v1.heap.size = k + 1 := by rw [V1.out, ← HK.out]; simp
  have s2 : v2.heap.size = k + 1 + 1 := by rw [V2.out]; simp [s1]
  have s3 : v3.heap.size = k + 1 + 1 + 1 := by rw [V3.out]; simp [s2]
  have s4 : v4.heap.size = k + 1 + 1 + 1 + 1 := by rw [V4.out]; simp [s3]
  have hsa : wa.heap.size = k + 1 + 1 + 1 + 1 + 1 := by rw [V5.out]; simp [s4]
  have D1 : Blk v1 k 31 [.int .i64 wd, .slice a1 n1 c1, .slice a2 n2 c2, .int .i64 tp, .slice a3 n3 c3, .slice a4 n4 c4] := by rw [V1.out, ← HK.out]; exact Blk.new w _ _
  have D2 : Blk v2 (k + 1) 39 [.slice af nf cf] := by rw [V2.out, ← s1]; exact Blk.new v1 _ _
  have D3 : MapW v3 (k + 1 + 1) [] [] := by rw [V3.out, ← s2]; exact mapW_made v2
  have D4 : Blk v4 (k + 1 + 1 + 1) 150 [.map (some (k + 1 + 1))] := by rw [V4.out, ← s3]; exact Blk.new v3 _ _
  have B4 : Blk wa (k + 1 + 1 + 1 + 1) 3 [.int .i64 0] := by rw [V5.out, ← s4]; exact Blk.new v4 _ _
  have B3 : Blk wa (k + 1 + 1 + 1) 150 [.map (some (k + 1 + 1))] := by rw [V5.out]; exact D4.alloc _
  have B2 : MapW wa (k + 1 + 1) [] [] := by rw [V5.out, V4.out]; exact D3.below (belA (belA (Below.refl v3.heap.size v3))) D3.lt
  have B1 : Blk wa (k + 1) 39 [.slice af nf cf] := by rw [V5.out, V4.out, V3.out]; exact ((D2.alloc _).alloc _).alloc _
  have B0 : Blk wa k 31 [.int .i64 wd, .slice a1 n1 c1, .slice a2 n2 c2, .int .i64 tp, .slice a3 n3 c3, .slice a4 n4 c4] := by rw [V5.out, V4.out, V3.out, V2.out]; exact (((D1.alloc _).alloc _).alloc _).alloc _
  have HB : Below w.heap.size w wa := by rw [V5.out, V4.out, V3.out, V2.out, V1.out]; exact belA (belA (belA (belA (belA (Below.refl _ _)))))
  have HW : Hid (wa = ((((w.alloc (.cells #[.int .i64 wd, .slice a1 n1 c1, .slice a2 n2 c2, .int .i64 tp, .slice a3 n3 c3, .slice a4 n4 c4] 31)).alloc (.cells #[.slice af nf cf] 39)).alloc (.map #[] 0)).alloc (.cells #[.map (some (k + 1 + 1))] 150)).alloc (.cells #[.int .i64 0] 3)) := Lib.hid (by rw [V5.out, V4.out, V3.out, V2.out, V1.out])
  clear V1 V2 V3 V4 V5 D1 D2 D3 D4 s1 s2 s3 s4 hsa
  have t0 := B0.cell (j := 0) rfl
  have t1 := B0.cell (j := 1) rfl
  have t2 := B0.cell (j := 2) rfl
  have t3 := B0.cell (j := 3) rfl
  have t4 := B0.cell (j := 4) rfl
  have t5 := B0.cell (j := 5) rfl
  rw [HW.out, ← HK.out] at t0 t1 t2 t3 t4 t5
  have hmm := @run_makeMap Tryz.prog
  refine (callsIn_wide (n := 6)).1 ?_
  refine callsIn_of_wp_marks Tryz.func66 rfl trivial ?_ rfl
  simp only [Tryz.ntmps66, List.size_toArray, List.length_cons, List.length_nil, Nat.reduceAdd, Nat.reduceSub, Array.replicate_succ, Array.replicate_zero, List.push_toArray, List.append_toArray, List.nil_append, List.cons_append]
  gi_wp2_with fail
  rw [HK.out, ← HW.out]
  refine ⟨trivial, (eachInput_in _ wd tp a1 a2 a3 a4 n1 n2 n3 n4 c1 c2 c3 c4 _).mono ?_⟩
  rintro e w8 ⟨rfl, rfl⟩
  gi_wp2_with fail
  obtain ⟨W0, HW0⟩ : ∃ W0, Hid (W0 = wa.alloc (.cells #[.int .i64 wd, .slice a1 n1 c1, .slice a2 n2 c2, .int .i64 tp, .slice a3 n3 c3, .slice a4 n4 c4] 31)) := ⟨_, rfl⟩
  have hb0 : Below wa.heap.size wa W0 := by rw [HW0.out]; exact belA (Below.refl _ _)
  have HBX : Blk W0 wa.heap.size 31 [.int .i64 wd, .slice a1 n1 c1, .slice a2 n2 c2, .int .i64 tp, .slice a3 n3 c3, .slice a4 n4 c4] := by rw [HW0.out]; exact Blk.new wa _ _
  have hs0 := hb0.size
  have E0 := Lib.hid (B0.below hb0 B0.lt)
  have E1 := Lib.hid (B1.below hb0 B1.lt)
  have E2 := Lib.hid (B2.below hb0 B2.lt)
  have E3 := Lib.hid (B3.below hb0 B3.lt)
  have E4 := Lib.hid (B4.below hb0 B4.lt)
  have hks : k + 1 + 1 + 1 + 1 < W0.heap.size := E4.out.lt
  have HBW := Lib.hid (HB.trans (hb0.mono HB.size))
  have HPA := Lib.hid (HP.out.below HBW.out)
  rw [← HW0.out]
  obtain ⟨bs, HBS⟩ : ∃ bs, Hid (wa.heap.size = bs) := ⟨_, rfl⟩
  rw [HBS.out] at HBX ⊢
  clear t0 t1 t2 t3 t4 t5 B0 B1 B2 B3 B4 HB hb0 HW0 HBS HW hmm hs0
  refine wpIn_rangeFunc_turns (α := EIn) (gf := 101) (lb := #[.pointer (some ⟨bs, 0, none⟩)]) rfl (enters_of Tryz.func101 (by kernel_rfl) rfl)
    (eachInput_stops 5 (by omega) bs ⟨wd, (a1, n1, c1), (a2, n2, c2), tp, (a3, n3, c3), (a4, n4, c4), rows⟩ p hlen HMX.out W0 HBX HPA.out) (Below.refl _ _) (fun _ => rfl) (fun lo hi x A B h hs _ => infoE_stay h hs)
    (fun m pre W => GoMost W0 (k + 1 + 1) (k + 1 + 1 + 1 + 1) p fs m pre W)
    (fun _ _ _ _ => False)
    (fun m x aa W => aa = { tmps := #[.agg #[.int .i64 wd, .slice a1 n1 c1, .slice a2 n2 c2, .int .i64 tp, .slice a3 n3 c3, .slice a4 n4 c4], .slice af nf cf, .pointer (some ⟨k, 0, none⟩), .pointer (some ⟨k + 1, 0, none⟩), .int .i64 0, .pointer (some ⟨k + 1 + 1 + 1, 0, none⟩), .pointer (some ⟨k + 1 + 1 + 1 + 1, 0, none⟩), undef, .slice x.a (maxesP p).length x.c, undef, .map (some (k + 1 + 1)), .agg #[.int .i64 wd, .slice a1 n1 c1, .slice a2 n2 c2, .int .i64 tp, .slice a3 n3 c3, .slice a4 n4 c4], .func (.func 101) #[] #[.pointer (some ⟨bs, 0, none⟩)], .int .i64 (x.k : Int), .slice x.a (maxesP p).length x.c, undef, undef, undef, undef, undef, undef, undef, undef, undef, undef, undef, undef, undef, undef, undef, undef, undef, undef, undef, undef, undef, undef, undef, undef, undef, undef], defers := [] })
    (fun m s A B h hs => h.span hs (by omega) (by omega))
    (fun _ _ _ _ _ h _ => h)
    (fun _ _ _ _ _ h _ => h)
    (fun W' hb => ⟨fun x hx => absurd hx (by simp), Nat.le_refl _, hb.size, Turn.of_below hb, E4.out.below hb E4.out.lt, [], fun _ _ => False, reg_none p fs (E2.out.below hb E2.out.lt)⟩)
    ?assign ?body ?done ?stop
  case assign =>
    rintro l m pre x W K hi hx hK
    simp only [encE]
    gi_wp2
    exact hK _ _ (Nat.le_refl _) (Stay.refl _ _ _) hi rfl
  case body =>
    rintro l m pre x aa W hl _ HG hx rfl
    have HGG := Lib.hid HG
    obtain ⟨g1, g2, g3, hts, hq, es, Ds, hreg⟩ := HG
    have HXK2 := Lib.hid hx.2.2.1
    have F0 := hts.blk E0.out (by rintro (h | h | h) <;> omega)
    have F1 := hts.blk E1.out (by rintro (h | h | h) <;> omega)
    have F3 := hts.blk E3.out (by rintro (h | h | h) <;> omega)
    have hbW : Below w.heap.size W0 W := hts.below (by rintro i (h | h | h) <;> (have := HK.out; have := HBW.out.size; omega)) HBW.out.size
    have HBWW := Lib.hid (HBW.out.trans hbW)
    have HF0 := Lib.hid F0
    have HF3 := Lib.hid F3
    have HFQ := Lib.hid hq
    have HMW := Lib.hid g3
    have HMW2 := Lib.hid (Nat.le_trans g3 g2)
    have HXI := Lib.hid hx
    have HXC : Hid ((maxesP p).length ≤ x.c) := Lib.hid hx.1.cap
    obtain ⟨κ, HKE⟩ : ∃ κ, Hid (keyN p fs x.k = κ) := ⟨_, rfl⟩
    have HKB : Hid (∀ z ∈ κ, 0 ≤ z ∧ z ≤ 255) := Lib.hid (by rw [← HKE.out]; exact bound_mem (by omega) (digs_in _ HMX.out))
    obtain ⟨MK, HMKE⟩ : ∃ MK, Hid (mostK p fs (pre.map EIn.k) = MK) := ⟨_, rfl⟩
    have HMS : Hid (MK ≤ 1024) := Lib.hid (by rw [← HMKE.out]; exact mostK_small p fs HZZ.out (fun k hk => by obtain ⟨y, hy, rfl⟩ := List.mem_map.1 hk; exact g1 y hy))
    have HALL : Hid (∀ k ∈ pre.map EIn.k ++ [x.k], (k : Int) < prodL (maxesP p)) := Lib.hid (fun k hk => by
      rcases List.mem_append.1 hk with hk | hk
      · obtain ⟨y, hy, rfl⟩ := List.mem_map.1 hk; exact g1 y hy
      · rw [List.mem_singleton] at hk; subst hk; exact HXK2.out)
    have HXK : Hid (∃ g, x.a = some ⟨g, 0, none⟩) := Lib.hid hx.2.2.2
    rw [HMKE.out] at HFQ
    have q1 := F1.cell (j := 0) rfl
    have HBI2 := Lib.hid (boundIn_any x.a af (maxesP p).length x.c nf cf (digs (maxesP p) (x.k : Int)) fs W hx.1.ints (digs_in _ HMX.out) (HBF.out.below HBWW.out) (by rw [HML.out, HNF.out]; exact Nat.le_refl _) (by rw [HML.out]; omega))
    have HKS2 : Hid (atOk p (x.k : Int) = true) := Lib.hid (by have := HXK2.out; simp [atOk, HZZ.out, this])
    obtain ⟨KS, HKS⟩ : ∃ KS, Hid (strOfNums κ = KS) := ⟨_, rfl⟩
    rw [show boundL fs (digs (maxesP p) (x.k : Int)) = κ from HKE.out, HKS.out] at HBI2
    have HRW := Lib.hid hreg
    have HMM := Lib.hid g2
    clear F0 F1 F3 hts hq hreg hbW g1 hx
    gi_wp2_with fail
    refine ⟨trivial, (CallsIn.inRound l (callsIn_wide.2 HBI2.out)).mono ?_⟩
    rintro e z1 ⟨rfl, hz1⟩
    have hr1 := HRW.out.keep (D' := fun _ => False) (Turn.of_below hz1) (fun h => h) (fun _ _ _ h => h)
    obtain ⟨v1, hlk1, hv1⟩ := hr1.find κ HKB.out
    rw [HKS.out] at hlk1
    have HR1 := Lib.hid hr1
    have HZ1 := Lib.hid hz1
    have Z3 := HF3.out.below hz1 HF3.out.lt
    have cm3 := Z3.cell (j := 0) rfl
    clear q1 HBI2 hr1
    rcases hv1 with ⟨hnew, rfl⟩ | ⟨j, b, hj1, rfl⟩
    case inr =>
      obtain ⟨zc, HZCE⟩ : ∃ zc, Hid (z1 = zc) := ⟨_, rfl⟩
      obtain ⟨Dn, HDN⟩ : ∃ Dn, Hid (Ds = Dn) := ⟨_, Lib.hid rfl⟩
      have HIN : Hid (κ ∈ es.map fun e => e.1) := Lib.hid (List.mem_map.2 ⟨_, List.mem_of_getElem? hj1, rfl⟩)
      rw [HZCE.out, HDN.out] at HR1
      rw [HZCE.out] at hz1 cm3 hlk1 ⊢
      have HIX := Lib.hid (HXI.out.1.ints.below hz1)
      have HRG := HR1
      have HMZ : Hid (m ≤ zc.heap.size) := Lib.hid (Nat.le_trans HMM.out hz1.size)
      have HMB : Hid (k + 1 + 1 < m) := Lib.hid (by omega)
      have HZM : Hid (Turn (fun i => i = k + 1 + 1) W zc) := Lib.hid (Turn.of_below hz1)
      have HZC9 : Hid (m ≤ zc.heap.size) := HMZ
      have HJ := Lib.hid hj1
      have hlk8 := hlk1
      clear hj1 hlk1 HR1 HZ1 Z3 hz1 HZCE HDN cm3
      have X0 := HZM.out.blk HF0.out (by show ¬ (k = k + 1 + 1); omega)
      have X3 := HZM.out.blk HF3.out (by show ¬ (k + 1 + 1 + 1 = k + 1 + 1); omega)
      have XQ := HZM.out.blk HFQ.out (by show ¬ (k + 1 + 1 + 1 + 1 = k + 1 + 1); omega)
      have hj := HJ.out
      have HPZ := Lib.hid (HP.out.below (HBWW.out.trans (HZM.out.below (by intro i hi; show w.heap.size ≤ i; have := HK.out; omega) HBWW.out.size)))
      have t0 := X0.cell (j := 0) rfl
      have t1 := X0.cell (j := 1) rfl
      have t2 := X0.cell (j := 2) rfl
      have t3 := X0.cell (j := 3) rfl
      have t4 := X0.cell (j := 4) rfl
      have t5 := X0.cell (j := 5) rfl
      have cm3 := X3.cell (j := 0) rfl
      have HADD := Lib.hid (most_round HRG.out hj HKE.out HMZ.out HMB.out HPZ.out HCAP.out HZZ.out HIX.out HXC.out HXK.out HKS2.out HALL.out)
      simp only [progV, slV] at HADD
      clear hj
      gi_wp2_with fail
      refine ⟨trivial, (CallsIn.inRound l (callsIn_wide.2 HADD.out)).mono ?_⟩
      rintro e z5 ⟨rfl, ht5, ⟨Ds5, hr5⟩, mm5, sa5, sn5, sc5, hbx5, hsn5⟩
      have HT5 := Lib.hid ht5
      have HR5 := Lib.hid hr5
      have hDk : ∀ i, i < W0.heap.size → ¬ (Dn j i ∨ zc.heap.size ≤ i) := fun i hi => by
        rintro (hh | hh)
        · have := ((HRG.out.sets j κ b HJ.out).2.2 i hh).1; have := HMW.out; omega
        · have := HZM.out.size; have := HMW2.out; omega
      have Y3 := ht5.blk X3 (hDk _ (by omega))
      have YQ := ht5.blk XQ (hDk _ (by omega))
      have hr9 := hr5.keep (W' := z5.drew) (D' := fun _ => False) (Turn.of_below ⟨rfl, rfl, rfl, Nat.le_refl _, fun _ _ => rfl⟩) (fun h => h) (fun _ _ _ h => h)
      obtain ⟨v9, hlk9, hv9⟩ := hr9.find κ HKB.out
      rcases hv9 with ⟨hno, _⟩ | ⟨j9, b9, hj9, rfl⟩
      · exact absurd HIN.out hno
      obtain ⟨rfl, rfl⟩ : j9 = j ∧ b9 = b := hr5.one hj9 HJ.out
      rw [HKS.out] at hlk9
      have hlk9 : (Instr.lookup 150 (.map (some (k + 1 + 1))) (.string KS) false).run Tryz.prog { z5 with drawn := z5.drawn + 1 } = .ok (.pointer (some ⟨b9, 0, none⟩)) { z5 with drawn := z5.drawn + 1 } := hlk9
      have d3 := Y3.cell (j := 0) rfl
      have dq := YQ.cell (j := 0) rfl
      have fq := YQ.frozen 0
      have dx := hbx5.cell (j := 1) rfl
      have HMK : Hid (mostK p fs ((pre ++ [x]).map EIn.k) = max MK sn5) := Lib.hid (by rw [List.map_append, List.map_singleton, mostK_snoc, HMKE.out, hsn5])
      have hsn : sn5 ≤ 1024 := by rw [← hsn5]; exact selO_sub p HZZ.out HALL.out
      have hmk : MK ≤ 1024 := HMS.out
      have hmx : max (MK : Int) (sn5 : Int) = ((max MK sn5 : Nat) : Int) := by omega
      have HFIN := Lib.hid (most_end HGG.out HXK2.out (by omega) (by omega) (by omega) HZM.out HT5.out (fun i hi => hDk i hi) (fun i h1 h2 => by
        rintro (hh | hh)
        · have := ((HRG.out.sets _ κ _ HJ.out).2.2 i hh).1; omega
        · have := HZC9.out; omega) HR5.out YQ (max MK sn5) HMK.out)
      clear HADD HT5 HR5 hr5 hr9 ht5 Y3 YQ hbx5 X0 X3 XQ hj9 hDk t0 t1 t2 t3 t4 t5 cm3 hlk8
      gi_wp2_with fail
      refine inRound_tail 9 (by kernel_rfl) (by kernel_rfl) (by kernel_rfl) (fun h => by obtain ⟨_, _, h⟩ := h; exact h) ?_
      simp only [List.take_succ_cons, List.take_zero, List.drop_succ_cons, List.drop_zero]
      repeat still_step
      refine wpStill_nil ?_
      go_wp2
      exact HFIN.out
    case inl =>
      gi_wp2_with fail
      refine inRound_held (S := fun w' => w'.cell? ⟨k + 1 + 1 + 1, 0, none⟩ = some (.map (some (k + 1 + 1)))) (by kernel_rfl) (by kernel_rfl) (fun h => by obtain ⟨_, _, h⟩ := h; exact h) ?_
      refine wpAnyH_take (i := 0) (v := ?v0) rfl (by kernel_rfl) (by kernel_rfl) (by kernel_rfl) (fun _ _ _ h => h) (Or.inl ⟨by rfl, ?h0⟩) cm3 ?_
      case h0 => intro w hS; go_simp; (try rfl)
      refine wpAnyH_take (i := 1) (v := ?v1) rfl (by kernel_rfl) (by kernel_rfl) (by kernel_rfl) (fun _ _ _ h => h) (Or.inl ⟨by rfl, ?h1⟩) cm3 ?_
      case h1 => intro w _; go_simp; (try rfl)
      simp only [Act.put, List.setIfInBounds_toArray]
      refine wpAnyH_ready (rs := [2]) (by kernel_rfl) (by simp) ?_
      refine AllReadyH.cons rfl (fun K1 hK1 => ?_) AllReadyH.nil
      go_simp
      refine (newSet_any _).mono ?_
      rintro e z2 ⟨rfl, hz2⟩
      have hd1 : Below z1.heap.size z1 z1.drew := ⟨rfl, rfl, rfl, Nat.le_refl _, fun _ _ => rfl⟩
      have hb2 : Below z1.heap.size z1 z2 := by rw [hz2]; exact belA (belA hd1)
      have hsz2 : z2.heap.size = z1.heap.size + 2 := by rw [hz2]; simp
      have Z32 := Z3.below hb2 Z3.lt
      have hset : ∀ (D : Nat → Prop) (B N : Nat), D z1.heap.size → D (z1.heap.size + 1) → SetW z2 D B N (z1.heap.size + 1) [] := fun D B N g1 g2 => by
        rw [hz2]
        exact setW_new z1.drew D B N g1 g2
      refine hK1.out _ _ (Z32.cell (j := 0) rfl) (fun _ => ?_)
      clear hK1 K1 hz2
      have M1 := HR1.out.map
      have M2 := M1.below hb2 M1.lt
      have hml := M1.lt
      obtain ⟨zc, hmu, hM3, hg3⟩ := M2.insert keyLaw_str (t := 150) Tryz.underlying150 (strOfNums κ) (fun hm => by
        obtain ⟨e, he, hh⟩ := List.mem_map.1 hm
        have := str_inj (HR1.out.bytes e he) HKB.out hh
        subst this
        exact hnew (List.mem_map.2 ⟨e, he, rfl⟩)) (.pointer (some ⟨z1.heap.size + 1, 0, none⟩))
      rw [HKS.out] at hmu
      have hT3 : Turn (fun i => i = k + 1 + 1) z1 zc := (Turn.of_below hb2).trans (Turn.of_grown hg3 (fun g e => by injection e with e; exact e.symm))
      have hs3 := hT3.size
      have hgs := hg3.size
      have hz1s := HZ1.out.size
      have hset3 : SetW zc (fun i => z1.heap.size ≤ i) m zc.heap.size (z1.heap.size + 1) [] := by
        have q := (hset (fun i => z1.heap.size ≤ i) m z2.heap.size (Nat.le_refl _) (by omega)).turn (w' := zc) (D' := fun i => i = k + 1 + 1) (Turn.of_grown hg3 (fun g e => by injection e with e; exact e.symm)) (fun i hi e => by omega) (fun i hi _ e => by omega)
        exact q.up hgs
      obtain ⟨D', d1, d2, d3⟩ := hset3.tight
      have hreg3 := HR1.out.fresh (W' := zc) HKB.out hnew hM3 hT3 (by omega) d3 d2 (fun i hi => ⟨(d1 i hi).1, (d1 i hi).2⟩) (by omega)
      have HZM : Hid (Turn (fun i => i = k + 1 + 1) W zc) := Lib.hid ((Turn.of_below HZ1.out).trans hT3)
      have Z33 := hT3.blk Z3 (by show ¬ (k + 1 + 1 + 1 = k + 1 + 1); omega)
      have HSC := Lib.hid (Z33.cell (j := 0) rfl)
      have HIX : Hid (Ints zc x.a (maxesP p).length (digs (maxesP p) (x.k : Int))) := Lib.hid (by
        have ho := HXI.out.1.below HZ1.out
        have ho2 : Own zc (W0.heap.size + 2) x.a (maxesP p).length x.c (digs (maxesP p) (x.k : Int)) := ⟨ownsRow_turn ho.1 hT3 (fun g hg e => own_not_map ho.1 M1 g hg (by rw [e])), ho.2⟩
        exact ho2.ints)
      have HMZ : Hid (m ≤ zc.heap.size) := Lib.hid (by omega)
      have HMB : Hid (k + 1 + 1 < m) := Lib.hid (by omega)
      have HZC9 : Hid (m ≤ zc.heap.size) := HMZ
      obtain ⟨es3, Dn, j, b, HRG, HJ, HIN⟩ : ∃ (es' : List (List Int × Nat)) (Dn : Nat → Nat → Prop) (j b : Nat), Hid (Reg zc (k + 1 + 1) m p fs (pre.map EIn.k) es' Dn) ∧ Hid (es'[j]? = some (κ, b)) ∧ Hid (κ ∈ es'.map fun e => e.1) := ⟨_, _, es.length, z1.heap.size + 1, Lib.hid hreg3, Lib.hid (by simp), Lib.hid (by simp)⟩
      obtain ⟨v8, hlk8, hv8⟩ := HRG.out.find κ HKB.out
      rcases hv8 with ⟨hno, _⟩ | ⟨j9, b9, hj9, rfl⟩
      · exact absurd HIN.out hno
      have hjj := HRG.out.one hj9 HJ.out
      rw [HKS.out, hjj.2] at hlk8
      clear hjj
      refine wpAnyH_ready (rs := [3]) (by kernel_rfl) (by simp) ?_
      refine AllReadyH.cons rfl (fun K1 hK1 => ?_) AllReadyH.nil
      go_simp
      refine hK1.out _ _ HSC.out (fun _ => ?_)
      clear hK1 K1
      refine wpAnyH_done (by kernel_rfl) ?_ _
      simp only [Exit.then]
      clear hj9 hreg3 d1 d2 d3 hset3 hset hmu hM3 hg3 hT3 M1 M2 Z33 Z32 Z3 HSC cm3 hlk1 hnew hb2 hd1 hsz2 hs3 hgs hz1s hml HR1 HZ1 hz1
      have X0 := HZM.out.blk HF0.out (by show ¬ (k = k + 1 + 1); omega)
      have X3 := HZM.out.blk HF3.out (by show ¬ (k + 1 + 1 + 1 = k + 1 + 1); omega)
      have XQ := HZM.out.blk HFQ.out (by show ¬ (k + 1 + 1 + 1 + 1 = k + 1 + 1); omega)
      have hj := HJ.out
      have HPZ := Lib.hid (HP.out.below (HBWW.out.trans (HZM.out.below (by intro i hi; show w.heap.size ≤ i; have := HK.out; omega) HBWW.out.size)))
      have t0 := X0.cell (j := 0) rfl
      have t1 := X0.cell (j := 1) rfl
      have t2 := X0.cell (j := 2) rfl
      have t3 := X0.cell (j := 3) rfl
      have t4 := X0.cell (j := 4) rfl
      have t5 := X0.cell (j := 5) rfl
      have cm3 := X3.cell (j := 0) rfl
      have HADD := Lib.hid (most_round HRG.out hj HKE.out HMZ.out HMB.out HPZ.out HCAP.out HZZ.out HIX.out HXC.out HXK.out HKS2.out HALL.out)
      simp only [progV, slV] at HADD
      clear hj
      gi_wp2_with fail
      refine ⟨trivial, (CallsIn.inRound l (callsIn_wide.2 HADD.out)).mono ?_⟩
      rintro e z5 ⟨rfl, ht5, ⟨Ds5, hr5⟩, mm5, sa5, sn5, sc5, hbx5, hsn5⟩
      have HT5 := Lib.hid ht5
      have HR5 := Lib.hid hr5
      have hDk : ∀ i, i < W0.heap.size → ¬ (Dn j i ∨ zc.heap.size ≤ i) := fun i hi => by
        rintro (hh | hh)
        · have := ((HRG.out.sets j κ b HJ.out).2.2 i hh).1; have := HMW.out; omega
        · have := HZM.out.size; have := HMW2.out; omega
      have Y3 := ht5.blk X3 (hDk _ (by omega))
      have YQ := ht5.blk XQ (hDk _ (by omega))
      have hr9 := hr5.keep (W' := z5.drew) (D' := fun _ => False) (Turn.of_below ⟨rfl, rfl, rfl, Nat.le_refl _, fun _ _ => rfl⟩) (fun h => h) (fun _ _ _ h => h)
      obtain ⟨v9, hlk9, hv9⟩ := hr9.find κ HKB.out
      rcases hv9 with ⟨hno, _⟩ | ⟨j9, b9, hj9, rfl⟩
      · exact absurd HIN.out hno
      obtain ⟨rfl, rfl⟩ : j9 = j ∧ b9 = b := hr5.one hj9 HJ.out
      rw [HKS.out] at hlk9
      have hlk9 : (Instr.lookup 150 (.map (some (k + 1 + 1))) (.string KS) false).run Tryz.prog { z5 with drawn := z5.drawn + 1 } = .ok (.pointer (some ⟨b9, 0, none⟩)) { z5 with drawn := z5.drawn + 1 } := hlk9
      have d3 := Y3.cell (j := 0) rfl
      have dq := YQ.cell (j := 0) rfl
      have fq := YQ.frozen 0
      have dx := hbx5.cell (j := 1) rfl
      have HMK : Hid (mostK p fs ((pre ++ [x]).map EIn.k) = max MK sn5) := Lib.hid (by rw [List.map_append, List.map_singleton, mostK_snoc, HMKE.out, hsn5])
      have hsn : sn5 ≤ 1024 := by rw [← hsn5]; exact selO_sub p HZZ.out HALL.out
      have hmk : MK ≤ 1024 := HMS.out
      have hmx : max (MK : Int) (sn5 : Int) = ((max MK sn5 : Nat) : Int) := by omega
      have HFIN := Lib.hid (most_end HGG.out HXK2.out (by omega) (by omega) (by omega) HZM.out HT5.out (fun i hi => hDk i hi) (fun i h1 h2 => by
        rintro (hh | hh)
        · have := ((HRG.out.sets _ κ _ HJ.out).2.2 i hh).1; omega
        · have := HZC9.out; omega) HR5.out YQ (max MK sn5) HMK.out)
      clear HADD HT5 HR5 hr5 hr9 ht5 Y3 YQ hbx5 X0 X3 XQ hj9 hDk t0 t1 t2 t3 t4 t5 cm3 hlk8
      gi_wp2_with fail
      refine inRound_tail 9 (by kernel_rfl) (by kernel_rfl) (by kernel_rfl) (fun h => by obtain ⟨_, _, h⟩ := h; exact h) ?_
      simp only [List.take_succ_cons, List.take_zero, List.drop_succ_cons, List.drop_zero]
      repeat still_step
      refine wpStill_nil ?_
      go_wp2
      exact HFIN.out
  case done =>
    rintro D m xs W hD hS HG hK
    obtain ⟨g1, g2, g3, hts, hq, _⟩ := HG
    rw [show xs.map EIn.k = List.range (prodL (maxesP p)).toNat from hS] at hq
    have hbW : Below w.heap.size W0 W := hts.below (by rintro i (h | h | h) <;> (have := HK.out; have := HBW.out.size; omega)) HBW.out.size
    obtain ⟨MK, HMK⟩ : ∃ MK, Hid (mostK p fs (List.range (prodL (maxesP p)).toNat) = MK) := ⟨_, rfl⟩
    rw [HMK.out] at hq
    have hmk : MK ≤ 1024 := by rw [← HMK.out]; exact mostK_small p fs HZZ.out (fun k hk => by have := List.mem_range.1 hk; omega)
    have u0 := hq.cell (j := 0) rfl
    have HZD : Hid (Below w.heap.size w (W.putObj D (.deferred none))) := Lib.hid ((HBW.out.trans hbW).trans ⟨rfl, rfl, rfl, by simp, fun i hi => World.putObj_heap_other (by have := HBW.out.size; omega)⟩)
    clear hts hbW hq hS g1
    gi_wp2
    refine ⟨by simp, .inl ⟨_, _, rfl, run_takeDeferred hK, ?_⟩⟩
    exact ⟨_, results_tmp rfl _ _ _, by rw [HMK.out]; rfl, HZD.out⟩
  case stop =>
    rintro D m c pre W hD hSp hf
    exact hf.elim
end Go.Proofs.YtmooecbdpfhnlaaGreat
