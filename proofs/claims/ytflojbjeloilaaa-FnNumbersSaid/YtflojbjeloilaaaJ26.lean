/- Joined texts of this proof (ImplAt, SpecIn, SpecAt, MemLaw, AtAns, AtMath), in build order. -/
import Derived.Test.YtflojbjeloilaaaJ25
import Derived.Test.YtflojbjeloilaaaJ17
import Derived.Test.YtflojbjeloilaaaJ12
import Derived.Test.YtflojbjeloilaaaJ10
/- The contract of the program's InputAt. -/
namespace Go.Proofs.Ytflojbjeloilaaa
open Go.RowKit Go.Shelf
attribute [local go_sem] Oper.semAt_some

/-- Whether there is such an input; its lows, its secrets. -/
noncomputable def atOk (p : Prg) (N : Int) : Bool := decide (codeB p = 0) && (decide (0 ≤ N) && decide (N < prodL (maxesP p)))
noncomputable def atL (p : Prg) (N : Int) : List Int := if atOk p N = true then (digs (maxesP p) N).take p.lows.length else []
noncomputable def atS (p : Prg) (N : Int) : List Int := if atOk p N = true then (digs (maxesP p) N).drop p.lows.length else []
/-- What InputAt leaves. -/
def AtAns (w : World) (p : Prg) (N : Int) (e : Ending) (w' : World) : Prop :=
  Below w.heap.size w w' ∧ ∃ s t : Sl, e = .returned (.tuple #[slV s, slV t, .bool (atOk p N)]) ∧ Own w' w.heap.size s.1 s.2.1 s.2.2 (atL p N) ∧ Own w' w.heap.size t.1 t.2.1 t.2.2 (atS p N) ∧ ∀ g, (slV s).ownBlock = some g → (slV t).ownBlock ≠ some g
theorem wide_of_max {p : Prg} (h : codeB p = 0) : ∀ m ∈ maxesP p, 0 ≤ m ∧ m ≤ 255 := by
  intro m hm
  obtain ⟨i, hi, rfl⟩ := List.getElem_of_mem hm
  have := (code_max h).2 i hi
  simpa [List.getD_eq_getElem?_getD, List.getElem?_eq_getElem hi] using this
theorem results_cell3 {fn : Func} {p q u : Tmp} {ty tz tu : TypeId} (h : fn.results = #[.cell p ty, .cell q tz, .cell u tu]) (tmps : Array Value) (P : Program) (w : World) :
    (results fn tmps).run P w =
      ((asAddr (tmps.getD p undef)).run P w).andThen fun a w₁ => ((loadVar ty a).run P w₁).andThen fun v w₂ =>
        ((asAddr (tmps.getD q undef)).run P w₂).andThen fun a' w₃ => ((loadVar tz a').run P w₃).andThen fun v' w₄ =>
          ((asAddr (tmps.getD u undef)).run P w₄).andThen fun a'' w₅ => ((loadVar tu a'').run P w₅).andThen fun v'' w₆ => .ok (.tuple #[v, v', v'']) w₆ := by
  simp only [results, h]
  simp [Sem.run_bind, Result.andThen]
theorem inRound_held {P : Program} {S : World → Prop} {id l m : Nat} {Q : Exit → Act → World → Prop} {a : Act} {w : World} {L : List Oper} (hm : P.follows .mixedOrders = true) (hd : (L.all fun o => match o.op with | .defer _ => false | _ => true) = true) (hQ : ¬ LetsOut Q)
    (h : wpAnyH P .any L.toArray Q S L.toArray.size (Array.replicate L.toArray.size false) a { w with drawn := w.drawn + 1 }) : (Code.region id L.toArray true).wpIn (Fence.wide.inRound l) m P Q a w := by
  refine wpIn_region_any hm (anyIn_of (fun j o ho c e => ?_) hQ _ _ _ _ (wpAny_of_held _ _ _ _ h))
  have hmem : o ∈ L := by have := Array.mem_of_getElem? ho; simpa using this
  have := List.all_eq_true.1 hd o hmem
  rw [e] at this
  cases this
theorem ints_tail {w : World} {B g n c j : Nat} {zs : List Int} (h : Own w B (some ⟨g, 0, none⟩) n c zs) (hj : j ≤ n) (hc : n ≤ c) : Ints w (if c = j then some ⟨g, 0, none⟩ else some ⟨g, j, none⟩) (n - j) (zs.drop j) := by
  have hl := h.len
  refine ⟨by rw [List.length_drop, hl], by have := h.2.1; omega, fun z hz => h.2.2 z (List.mem_of_mem_drop hz), fun hp => ?_⟩
  have hb := (h.block g rfl).2
  rw [if_neg (by omega)]
  refine ⟨g, j, rfl, hb, fun i hi => ?_⟩
  rw [own_cell h.1 (by omega)]
  simp [List.getD_eq_getElem?_getD]
theorem own_put_def {w : World} {B n c D : Nat} {a : Option Addr} {zs : List Int} {o' : Obj} {ds : Option (List Deferred)} (h : Own w B a n c zs) (hD : w.heap[D]? = some (.deferred ds)) : Own (w.putObj D o') B a n c zs := by
  refine h.keep (grownBy_putObj' w D o') (fun g hg e => ?_)
  injection e with e
  subst e
  obtain ⟨c1, f1, e1⟩ := Go.Lib.ownsRow_kind h.1 D hg
  rw [hD] at e1
  cases e1
/-- How its loop is left by the return within. -/
def StopAt (k : Nat) (w W0 : World) (p : Prg) (N : Int) (c : Code) (m : Nat) (W : World) : Prop :=
  c = .ret ∧ ∃ s t : Sl, Blk W (k + 1 + 1) 25 [slV s] ∧ Blk W (k + 1 + 1 + 1) 25 [slV t] ∧ Blk W (k + 1 + 1 + 1 + 1) 4 [.bool true] ∧ Own W m s.1 s.2.1 s.2.2 (atL p N) ∧ Own W m t.1 t.2.1 t.2.2 (atS p N) ∧ (∀ g, (slV s).ownBlock = some g → (slV t).ownBlock ≠ some g) ∧ atOk p N = true ∧ W0.heap.size ≤ W.heap.size ∧ Below w.heap.size w W ∧ W0.heap.size ≤ m
/-- Between two rounds. -/
def GoAt (W0 : World) (N : Int) (m : Nat) (pre : List EIn) (W : World) : Prop := (∀ x ∈ pre, (x.k : Int) ≠ N) ∧ m ≤ W.heap.size ∧ W0.heap.size ≤ m ∧ Below W0.heap.size W0 W
theorem belA {w w' : World} {o : Obj} (h : Below w.heap.size w w') : Below w.heap.size w (w'.alloc o) := h.alloc h.size _
set_option maxRecDepth 100000 in
set_option maxHeartbeats 4000000 in
theorem implInputAt_any (r : PRow) (p : Prg) (N : Int) (w : World) (h : ProgAt w r p) (hcap : r.body.2.1 ≤ r.body.2.2) (_hN : In64 N) :
    Calls Try.prog 26 #[progV r, .int .i64 N] w (AtAns w p N) := by
  have HC : Hid (∀ w', Below w.heap.size w w' → Calls Try.prog 11 #[progV r] w' fun e w'' => e = .returned (.bool (codeB p == 0)) ∧ Below w'.heap.size w' w'') := Lib.hid (fun w' hw => implProgOk_any r p w' (h.below hw) hcap)
  have HP := Lib.hid h
  clear h hcap
  obtain ⟨wd, ⟨a1, n1, c1⟩, ⟨a2, n2, c2⟩, tp, ⟨a3, n3, c3⟩, ⟨a4, n4, c4⟩, rows⟩ := r
  simp only [progV, slV] at HC
  show Calls Try.prog 26 #[.agg #[.int .i64 wd, .slice a1 n1 c1, .slice a2 n2 c2, .int .i64 tp, .slice a3 n3 c3, .slice a4 n4 c4], .int .i64 N] w _
  obtain ⟨v1, V1⟩ : ∃ v, Hid (v = w.alloc (.cells #[.int .i64 wd, .slice a1 n1 c1, .slice a2 n2 c2, .int .i64 tp, .slice a3 n3 c3, .slice a4 n4 c4] 28)) := ⟨_, rfl⟩
  obtain ⟨v2, V2⟩ : ∃ v, Hid (v = v1.alloc (.cells #[.int .i64 N] 2)) := ⟨_, rfl⟩
  obtain ⟨v3, V3⟩ : ∃ v, Hid (v = v2.alloc (.cells #[.slice none 0 0] 25)) := ⟨_, rfl⟩
  obtain ⟨v4, V4⟩ : ∃ v, Hid (v = v3.alloc (.cells #[.slice none 0 0] 25)) := ⟨_, rfl⟩
  obtain ⟨wa, V5⟩ : ∃ v, Hid (v = v4.alloc (.cells #[.bool false] 4)) := ⟨_, rfl⟩
  obtain ⟨k, HK⟩ : ∃ k, Hid (w.heap.size = k) := ⟨_, rfl⟩
  have s1 : v1.heap.size = k + 1 := by rw [V1.out, ← HK.out]; simp
  have s2 : v2.heap.size = k + 1 + 1 := by rw [V2.out]; simp [s1]
  have s3 : v3.heap.size = k + 1 + 1 + 1 := by rw [V3.out]; simp [s2]
  have s4 : v4.heap.size = k + 1 + 1 + 1 + 1 := by rw [V4.out]; simp [s3]
  have hsa : wa.heap.size = k + 1 + 1 + 1 + 1 + 1 := by rw [V5.out]; simp [s4]
  have D1 : Blk v1 k 28 [.int .i64 wd, .slice a1 n1 c1, .slice a2 n2 c2, .int .i64 tp, .slice a3 n3 c3, .slice a4 n4 c4] := by rw [V1.out, ← HK.out]; exact Blk.new w _ _
  have D2 : Blk v2 (k + 1) 2 [.int .i64 N] := by rw [V2.out, ← s1]; exact Blk.new v1 _ _
  have D3 : Blk v3 (k + 1 + 1) 25 [.slice none 0 0] := by rw [V3.out, ← s2]; exact Blk.new v2 _ _
  have D4 : Blk v4 (k + 1 + 1 + 1) 25 [.slice none 0 0] := by rw [V4.out, ← s3]; exact Blk.new v3 _ _
  have B4 : Blk wa (k + 1 + 1 + 1 + 1) 4 [.bool false] := by rw [V5.out, ← s4]; exact Blk.new v4 _ _
  have B3 : Blk wa (k + 1 + 1 + 1) 25 [.slice none 0 0] := by rw [V5.out]; exact D4.alloc _
  have B2 : Blk wa (k + 1 + 1) 25 [.slice none 0 0] := by rw [V5.out, V4.out]; exact (D3.alloc _).alloc _
  have B1 : Blk wa (k + 1) 2 [.int .i64 N] := by rw [V5.out, V4.out, V3.out]; exact ((D2.alloc _).alloc _).alloc _
  have B0 : Blk wa k 28 [.int .i64 wd, .slice a1 n1 c1, .slice a2 n2 c2, .int .i64 tp, .slice a3 n3 c3, .slice a4 n4 c4] := by rw [V5.out, V4.out, V3.out, V2.out]; exact (((D1.alloc _).alloc _).alloc _).alloc _
  have HB : Below w.heap.size w wa := by rw [V5.out, V4.out, V3.out, V2.out, V1.out]; exact belA (belA (belA (belA (belA (Below.refl _ _)))))
  have HW : Hid (wa = ((((w.alloc (.cells #[.int .i64 wd, .slice a1 n1 c1, .slice a2 n2 c2, .int .i64 tp, .slice a3 n3 c3, .slice a4 n4 c4] 28)).alloc (.cells #[.int .i64 N] 2)).alloc (.cells #[.slice none 0 0] 25)).alloc (.cells #[.slice none 0 0] 25)).alloc (.cells #[.bool false] 4)) := Lib.hid (by rw [V5.out, V4.out, V3.out, V2.out, V1.out])
  clear V1 V2 V3 V4 V5 D1 D2 D3 D4 s1 s2 s3 s4
  have t0 := B0.cell (j := 0) rfl
  have t1 := B0.cell (j := 1) rfl
  have t2 := B0.cell (j := 2) rfl
  have t3 := B0.cell (j := 3) rfl
  have t4 := B0.cell (j := 4) rfl
  have t5 := B0.cell (j := 5) rfl
  rw [HW.out, ← HK.out] at t0 t1 t2 t3 t4 t5
  by_cases hz : codeB p = 0
  case neg =>
    have hzz : (codeB p == 0) = false := by simpa using hz
    rw [hzz] at HC
    have hok : atOk p N = false := by simp [atOk, hz]
    have HAL : Hid (atL p N = []) := Lib.hid (by rw [atL, hok]; rfl)
    have HAS : Hid (atS p N = []) := Lib.hid (by rw [atS, hok]; rfl)
    go_enter Try.func26, Try.ntmps26
    go_wp2_with fail
    rw [← HW.out, HK.out]
    refine (HC.out _ HB).mono ?_
    rintro e w1 ⟨rfl, hb1⟩
    have hs1 := hb1.size
    have X2 := B2.below hb1 B2.lt
    have X3 := B3.below hb1 B3.lt
    have X4 := B4.below hb1 B4.lt
    have u2 := X2.cell (j := 0) rfl
    have u3 := X3.cell (j := 0) rfl
    have u4 := X4.cell (j := 0) rfl
    have f2 := X2.frozen 0
    have f3 := X3.frozen 0
    have f4 := X4.frozen 0
    have HF := HB.trans (hb1.mono HB.size)
    have HF3 := Lib.hid (((HF.setCell (p := ⟨k + 1 + 1, 0, none⟩) (by have := HK.out; simp only []; omega) (.slice none 0 0)).setCell (p := ⟨k + 1 + 1 + 1, 0, none⟩) (by have := HK.out; simp only []; omega) (.slice none 0 0)).setCell (p := ⟨k + 1 + 1 + 1 + 1, 0, none⟩) (by have := HK.out; simp only []; omega) (.bool false))
    clear HF
    clear t0 t1 t2 t3 t4 t5 B0 B1 B2 B3 B4 X2 X3 X4
    go_wp2
    refine ⟨rfl, .tuple #[.slice none 0 0, .slice none 0 0, .bool false], ?_, ?_⟩
    · rw [results_cell3 rfl]
      go_simp
    · exact ⟨HF3.out, (none, 0, 0), (none, 0, 0), by rw [hok]; rfl, by rw [HAL.out]; exact own_nil _ _, by rw [HAS.out]; exact own_nil _ _, fun g hg => by cases hg⟩
  case pos =>
    have hzz : (codeB p == 0) = true := by simpa using hz
    rw [hzz] at HC
    obtain ⟨l1, l2, _, _⟩ := code_inputs hz
    have HMX := Lib.hid (wide_of_max hz)
    have hlen : p.lows.length + p.secrets.length ≤ 6 := by omega
    have hpl := prodL_pos (fun m hm => (HMX.out m hm).1)
    have HOK : Hid (atOk p N = true ↔ 0 ≤ N ∧ N < prodL (maxesP p)) := Lib.hid (by simp [atOk, hz])
    have HN1 : Hid (n1 = p.lows.length) := Lib.hid HP.out.lows.1.symm
    have hnL : n1 ≤ (maxesP p).length := by rw [maxesP_len, HN1.out]; omega
    clear hz hzz l1 l2
    refine (callsIn_wide (n := 6)).1 ?_
    refine callsIn_of_wp_marks Try.func26 rfl trivial ?_ rfl
    simp only [Try.ntmps26, List.size_toArray, List.length_cons, List.length_nil, Nat.reduceAdd, Nat.reduceSub, Array.replicate_succ, Array.replicate_zero, List.push_toArray, List.append_toArray, List.nil_append, List.cons_append]
    gi_wp2_with fail
    rw [← HW.out, HK.out]
    refine ⟨trivial, (callsIn_wide.2 (HC.out _ HB)).mono ?_⟩
    rintro e w1 ⟨rfl, hb1⟩
    have X0 := B0.below hb1 B0.lt
    have t0 := X0.cell (j := 0) rfl
    have t1 := X0.cell (j := 1) rfl
    have t2 := X0.cell (j := 2) rfl
    have t3 := X0.cell (j := 3) rfl
    have t4 := X0.cell (j := 4) rfl
    have t5 := X0.cell (j := 5) rfl
    gi_wp2_with fail
    refine ⟨trivial, (eachInput_in _ wd tp a1 a2 a3 a4 n1 n2 n3 n4 c1 c2 c3 c4 _).mono ?_⟩
    rintro e w2 ⟨rfl, rfl⟩
    gi_wp2_with fail
    obtain ⟨W0, HW0⟩ : ∃ W0, Hid (W0 = w1.alloc (.cells #[.int .i64 wd, .slice a1 n1 c1, .slice a2 n2 c2, .int .i64 tp, .slice a3 n3 c3, .slice a4 n4 c4] 28)) := ⟨_, rfl⟩
    have hb0 : Below w1.heap.size w1 W0 := by rw [HW0.out]; exact (Below.refl _ _).alloc (Nat.le_refl _) _
    have HBX : Blk W0 w1.heap.size 28 [.int .i64 wd, .slice a1 n1 c1, .slice a2 n2 c2, .int .i64 tp, .slice a3 n3 c3, .slice a4 n4 c4] := by rw [HW0.out]; exact Blk.new w1 _ _
    have hbe : Below wa.heap.size wa W0 := hb1.trans (hb0.mono hb1.size)
    have E0 := Lib.hid (B0.below hbe B0.lt)
    have E1 := Lib.hid (B1.below hbe B1.lt)
    have E2 := Lib.hid (B2.below hbe B2.lt)
    have E3 := Lib.hid (B3.below hbe B3.lt)
    have E4 := Lib.hid (B4.below hbe B4.lt)
    have HBW := Lib.hid (HB.trans (hbe.mono HB.size))
    have HPA := Lib.hid (HP.out.below HBW.out)
    have hks : k + 1 + 1 + 1 + 1 < W0.heap.size := E4.out.lt
    rw [← HW0.out]
    obtain ⟨bs, HBS⟩ : ∃ bs, Hid (w1.heap.size = bs) := ⟨_, rfl⟩
    rw [HBS.out] at HBX ⊢
    clear t0 t1 t2 t3 t4 t5 B0 B1 B2 B3 B4 HB hb1 hb0 hbe HW0 HBS HC HW X0 HP
    refine wpIn_rangeFunc_owns (α := EIn) (gf := 87) (lb := #[.pointer (some ⟨bs, 0, none⟩)]) rfl (enters_of Try.func87 (by kernel_rfl) rfl)
      (eachInput_stops 5 (by omega) bs ⟨wd, (a1, n1, c1), (a2, n2, c2), tp, (a3, n3, c3), (a4, n4, c4), rows⟩ p hlen HMX.out W0 HBX HPA.out) (Below.refl _ _) (fun _ => rfl) (fun lo hi x A B h hs _ => infoE_stay h hs)
      (fun m pre W => GoAt W0 N m pre W)
      (fun c m _ W => StopAt k w W0 p N c m W)
      (fun m x a' W => a' = { tmps := #[.agg #[.int .i64 wd, .slice a1 n1 c1, .slice a2 n2 c2, .int .i64 tp, .slice a3 n3 c3, .slice a4 n4 c4], .int .i64 N, .pointer (some ⟨k, 0, none⟩), .pointer (some ⟨k + 1, 0, none⟩), .pointer (some ⟨k + 1 + 1, 0, none⟩), .pointer (some ⟨k + 1 + 1 + 1, 0, none⟩), .pointer (some ⟨k + 1 + 1 + 1 + 1, 0, none⟩), .int .i64 (x.k : Int), .slice x.a (maxesP p).length x.c, undef, .agg #[.int .i64 wd, .slice a1 n1 c1, .slice a2 n2 c2, .int .i64 tp, .slice a3 n3 c3, .slice a4 n4 c4], .bool true, .bool false, .agg #[.int .i64 wd, .slice a1 n1 c1, .slice a2 n2 c2, .int .i64 tp, .slice a3 n3 c3, .slice a4 n4 c4], .func (.func 87) #[] #[.pointer (some ⟨bs, 0, none⟩)], .int .i64 (x.k : Int), .slice x.a (maxesP p).length x.c, undef, undef, undef, undef, undef, undef, undef, undef, undef, undef, undef, undef, undef, undef], defers := [] })
      (fun m s A B h hs => ⟨h.1, Nat.le_trans h.2.1 hs.size, h.2.2.1, h.2.2.2.trans (hs.below h.2.2.2.size)⟩)
      (fun c m s A B h hs => by
        obtain ⟨rfl, s, t, h1, h2, h3, h4, h5, h6, h7, h8, h9, h10⟩ := h
        exact ⟨rfl, s, t, h1.span hs (.inl (by omega)), h2.span hs (.inl (by omega)), h3.span hs (.inl (by omega)), h4.span hs (Nat.le_refl _), h5.span hs (Nat.le_refl _), h6, h7, Nat.le_trans h8 hs.size, h9.trans ((hs.below h8).mono HBW.out.size), h10⟩)
      (fun _ _ _ _ _ h _ => h)
      (fun W' hb => ⟨fun x hx => absurd hx (by simp), Nat.le_refl _, hb.size, hb⟩)
      ?assign ?body ?done ?stop
    case assign =>
      rintro l m pre x W K hi hx hK
      simp only [encE]
      gi_wp2
      exact hK _ _ (KeepsFrom.refl _ _) (Stay.refl _ _ _) hi rfl
    case body =>
      rintro l m pre x a' W hl _ ⟨hne, hmW, hWm, hbW⟩ hx rfl
      have F0 := (E0.out.below hbW E0.out.lt).cell (j := 1) rfl
      have F1 := (E1.out.below hbW E1.out.lt).cell (j := 0) rfl
      have hxc := hx.1.cap
      by_cases hxN : (x.k : Int) = N
      · have hxe : decide ((x.k : Int) = N) = true := decide_eq_true hxN
        have hn1c : n1 ≤ x.c := by omega
        obtain ⟨g, hg⟩ := hx.2.2.2
        rw [hg]
        gi_wp2_with fail
        refine inRound_held (S := fun _ => True) (by kernel_rfl) (by kernel_rfl) (fun h => by obtain ⟨_, _, h⟩ := h; exact h) ?_
        refine wpAnyH_take (i := 0) (v := ?v0) rfl (by kernel_rfl) (by kernel_rfl) (by kernel_rfl) (fun _ _ _ h => h) (Or.inl ⟨by rfl, ?h0⟩) trivial ?_
        case h0 => intro w _; go_simp; (try rfl)
        refine wpAnyH_take (i := 1) (v := ?v1) rfl (by kernel_rfl) (by kernel_rfl) (by kernel_rfl) (fun _ _ _ h => h) (Or.inl ⟨by rfl, ?h1⟩) trivial ?_
        case h1 => intro w _; go_simp; (try rfl)
        refine wpAnyH_take (i := 2) (v := ?v2) rfl (by kernel_rfl) (by kernel_rfl) (by kernel_rfl) (fun _ _ _ h => h) (Or.inl ⟨by rfl, ?h2⟩) trivial ?_
        case h2 => intro w _; go_simp; (try rfl)
        refine wpAnyH_take (i := 4) (v := ?v4) rfl (by kernel_rfl) (by kernel_rfl) (by kernel_rfl) (fun _ _ _ h => h) (Or.inl ⟨by rfl, ?h4⟩) trivial ?_
        case h4 => intro w _; go_simp; (try rfl)
        refine wpAnyH_take (i := 5) (v := ?v5) rfl (by kernel_rfl) (by kernel_rfl) (by kernel_rfl) (fun _ _ _ h => h) (Or.inl ⟨by rfl, ?h5⟩) trivial ?_
        case h5 => intro w _; go_simp; (try rfl)
        refine wpAnyH_take (i := 6) (v := ?v6) rfl (by kernel_rfl) (by kernel_rfl) (by kernel_rfl) (fun _ _ _ h => h) (Or.inl ⟨by rfl, ?h6⟩) trivial ?_
        case h6 => intro w _; go_simp; (try rfl)
        simp only [Act.put, List.setIfInBounds_toArray]
        have hok : atOk p N = true := HOK.out.2 ⟨by omega, by rw [← hxN]; exact hx.2.2.1⟩
        have HI1 : Hid (Ints W (some ⟨g, 0, none⟩) n1 (atL p N)) := Lib.hid (by rw [atL, if_pos hok, ← HN1.out, ← hxN, ← hg]; exact (hx.1.cut hnL).ints)
        have HI2 : Hid (Ints W (if x.c = n1 then some ⟨g, 0, none⟩ else some ⟨g, n1, none⟩) ((maxesP p).length - n1) (atS p N)) := Lib.hid (by rw [atS, if_pos hok, ← HN1.out, ← hxN]; exact ints_tail (by rw [← hg]; exact hx.1) hnL hxc)
        have hd : Below W.heap.size W W.drew := ⟨rfl, rfl, rfl, Nat.le_refl _, fun _ _ => rfl⟩
        have FB2 := Lib.hid (E2.out.below hbW E2.out.lt)
        have FB3 := Lib.hid (E3.out.below hbW E3.out.lt)
        have FB4 := Lib.hid (E4.out.below hbW E4.out.lt)
        clear F0 F1
        refine wpAnyH_ready (rs := [3]) (by kernel_rfl) (by simp) ?_
        refine AllReadyH.cons rfl (fun K1 hK1 => ?_) AllReadyH.nil
        go_simp
        refine (cloneInts_any _ _ _ _ _ (HI1.out.below hd)).mono ?_
        rintro e w5 ⟨a5, m5, c5, rfl, h5, b5⟩
        have hb5 : Below W.heap.size W w5 := hd.trans b5
        refine hK1.out _ _ trivial (fun _ => ?_)
        clear hK1 K1
        refine wpAnyH_ready (rs := [7]) (by kernel_rfl) (by simp) ?_
        refine AllReadyH.cons rfl (fun K1 hK1 => ?_) AllReadyH.nil
        go_simp
        refine (cloneInts_any _ _ _ _ _ (HI2.out.below hb5)).mono ?_
        rintro e w6 ⟨a6, m6, c6, rfl, h6, b6⟩
        have hb6 : Below W.heap.size W w6 := hb5.trans (b6.mono hb5.size)
        refine hK1.out _ _ trivial (fun _ => ?_)
        clear hK1 K1
        have G2 := FB2.out.below hb6 FB2.out.lt
        have G3 := FB3.out.below hb6 FB3.out.lt
        have G4 := FB4.out.below hb6 FB4.out.lt
        have u2 := G2.cell (j := 0) rfl
        have u3 := G3.cell (j := 0) rfl
        have u4 := G4.cell (j := 0) rfl
        have q2 := G2.frozen 0
        have q3 := G3.frozen 0
        have q4 := G4.frozen 0
        have hkw := HK.out
        obtain ⟨w7, H7⟩ : ∃ z, Hid (z = w6.setCell ⟨k + 1 + 1, 0, none⟩ (.slice a5 m5 c5)) := ⟨_, rfl⟩
        obtain ⟨w8, H8⟩ : ∃ z, Hid (z = w7.setCell ⟨k + 1 + 1 + 1, 0, none⟩ (.slice a6 m6 c6)) := ⟨_, rfl⟩
        obtain ⟨w9, H9⟩ : ∃ z, Hid (z = w8.setCell ⟨k + 1 + 1 + 1 + 1, 0, none⟩ (.bool true)) := ⟨_, rfl⟩
        have y7 : w6.grownBy w7 (some (k + 1 + 1)) := by rw [H7.out]; exact grown_set _ _ _ _
        have y8 : w7.grownBy w8 (some (k + 1 + 1 + 1)) := by rw [H8.out]; exact grown_set _ _ _ _
        have y9 : w8.grownBy w9 (some (k + 1 + 1 + 1 + 1)) := by rw [H9.out]; exact grown_set _ _ _ _
        have ne : ∀ {a b : Nat}, a ≠ b → (some a : Option Nat) ≠ some b := fun h e => h (by injection e)
        have R2 : Blk w9 (k + 1 + 1) 25 [.slice a5 m5 c5] := by
          have r : Blk w7 (k + 1 + 1) 25 [.slice a5 m5 c5] := by rw [H7.out]; exact G2.set (j := 0) _
          exact blk_stay (blk_stay r y8 (ne (by omega))) y9 (ne (by omega))
        have R3 : Blk w9 (k + 1 + 1 + 1) 25 [.slice a6 m6 c6] := by
          have r0 := blk_stay G3 y7 (ne (by omega))
          have r : Blk w8 (k + 1 + 1 + 1) 25 [.slice a6 m6 c6] := by rw [H8.out]; exact r0.set (j := 0) _
          exact blk_stay r y9 (ne (by omega))
        have R4 : Blk w9 (k + 1 + 1 + 1 + 1) 4 [.bool true] := by
          have r0 := blk_stay (blk_stay G4 y7 (ne (by omega))) y8 (ne (by omega))
          rw [H9.out]; exact r0.set (j := 0) _
        have hws : W0.heap.size ≤ W.heap.size := hbW.size
        have hw5 := hb5.size
        have lo : ∀ {row : Option Nat} {j : Nat}, row = some j → j ≤ k + 1 + 1 + 1 + 1 → ∀ g', row = some g' → g' < W.heap.size := fun e hj g' e' => by rw [e] at e'; injection e'; omega
        have hsd : W.drew.heap.size = W.heap.size := rfl
        have O5 : Own w9 m a5 m5 c5 (atL p N) := ((((h5.below b6).other y7 (lo rfl (by omega))).other y8 (lo rfl (by omega))).other y9 (lo rfl (by omega))).base (by rw [hsd]; exact hmW)
        have O6 : Own w9 m a6 m6 c6 (atS p N) := ((((h6.base (B' := W.heap.size) hw5).other y7 (lo rfl (by omega))).other y8 (lo rfl (by omega))).other y9 (lo rfl (by omega))).base hmW
        have AP : ∀ g, (slV (a5, m5, c5)).ownBlock = some g → (slV (a6, m6, c6)).ownBlock ≠ some g := fun g e1 e2 => by have := (h5.block g e1).2; have := (h6.block g e2).1; omega
        have HZ : Below w.heap.size w w9 := by
          have hz6 : Below w.heap.size w w6 := (HBW.out.trans (hbW.mono HBW.out.size)).trans (hb6.mono (HBW.out.trans (hbW.mono HBW.out.size)).size)
          rw [H9.out, H8.out, H7.out]
          exact ((hz6.setCell (p := ⟨k + 1 + 1, 0, none⟩) (by simp only []; omega) _).setCell (p := ⟨k + 1 + 1 + 1, 0, none⟩) (by simp only []; omega) _).setCell (p := ⟨k + 1 + 1 + 1 + 1, 0, none⟩) (by simp only []; omega) _
        have KF : KeepsFrom W0.heap.size W w9 := by
          have kf6 : KeepsFrom W0.heap.size W w6 := ⟨hb6.size, fun i o _ hi _ => (hb6.block i (Array.getElem?_eq_some_iff.1 hi).1).trans hi⟩
          rw [H9.out, H8.out, H7.out]
          exact ((kf6.trans ((KeepsOthers.setCell _ _ _).from _)).trans ((KeepsOthers.setCell _ _ _).from _)).trans ((KeepsOthers.setCell _ _ _).from _)
        have HALL := Lib.hid (show KeepsFrom W0.heap.size W w9 ∧ StopAt k w W0 p N .ret m w9 from
          ⟨KF, rfl, (a5, m5, c5), (a6, m6, c6), R2, R3, R4, O5, O6, AP, HOK.out.2 ⟨by omega, by rw [← hxN]; exact hx.2.2.1⟩, Nat.le_trans hws KF.size, HZ, hWm⟩)
        have P7 := blk_stay G3 y7 (ne (by omega))
        have P8 := blk_stay (blk_stay G4 y7 (ne (by omega))) y8 (ne (by omega))
        have u3' := P7.cell (j := 0) rfl
        have q3' := P7.frozen 0
        have u4' := P8.cell (j := 0) rfl
        have q4' := P8.frozen 0
        rw [H9.out, H8.out, H7.out] at HALL
        rw [H7.out] at u3' q3'
        rw [H8.out, H7.out] at u4' q4'
        clear H7 H8 H9 y7 y8 y9 R2 R3 R4 O5 O6 AP HZ KF P7 P8 G2 G3 G4 u3 u4 q3 q4 lo ne hsd hkw
        refine wpAnyH_ready (rs := [8]) (by kernel_rfl) (by simp) ?_
        refine AllReadyH.cons rfl (fun K1 hK1 => ?_) AllReadyH.nil
        go_simp
        refine hK1.out _ _ trivial (fun _ => ?_)
        clear hK1 K1
        refine wpAnyH_ready (rs := [9]) (by kernel_rfl) (by simp) ?_
        refine AllReadyH.cons rfl (fun K1 hK1 => ?_) AllReadyH.nil
        go_simp
        refine hK1.out _ _ trivial (fun _ => ?_)
        clear hK1 K1
        refine wpAnyH_ready (rs := [10]) (by kernel_rfl) (by simp) ?_
        refine AllReadyH.cons rfl (fun K1 hK1 => ?_) AllReadyH.nil
        go_simp
        refine hK1.out _ _ trivial (fun _ => ?_)
        clear hK1 K1
        refine wpAnyH_done (by kernel_rfl) ?_ _
        simp only [Exit.then]
        gi_wp2
        all_goals exact HALL.out
      · have hxe : decide ((x.k : Int) = N) = false := decide_eq_false hxN
        gi_wp2
        refine ⟨KeepsFrom.refl _ _, Stay.refl _ _ _, fun y hy => ?_, hmW, hWm, hbW⟩
        rcases List.mem_append.1 hy with hy | hy
        · exact hne y hy
        · rw [List.mem_singleton] at hy; subst hy; exact hxN
    case done =>
      rintro D m xs W hD hS ⟨hne, hmW, hWm, hbW⟩ hK
      have hok : atOk p N = false := by
        cases hh : atOk p N with
        | false => rfl
        | true =>
          obtain ⟨g1, g2⟩ := HOK.out.1 hh
          have hmem : N.toNat ∈ xs.map EIn.k := by rw [show xs.map EIn.k = List.range (prodL (maxesP p)).toNat from hS]; exact List.mem_range.2 (by omega)
          obtain ⟨x, hx, hxk⟩ := List.mem_map.1 hmem
          exact absurd (show (x.k : Int) = N by omega) (hne x hx)
      have HAL : Hid (atL p N = []) := Lib.hid (by rw [atL, hok]; rfl)
      have HAS : Hid (atS p N = []) := Lib.hid (by rw [atS, hok]; rfl)
      have X2 := E2.out.below hbW E2.out.lt
      have X3 := E3.out.below hbW E3.out.lt
      have X4 := E4.out.below hbW E4.out.lt
      have u2 := X2.cell (j := 0) rfl
      have u3 := X3.cell (j := 0) rfl
      have u4 := X4.cell (j := 0) rfl
      have f2 := X2.frozen 0
      have f3 := X3.frozen 0
      have f4 := X4.frozen 0
      have HF := HBW.out.trans (hbW.mono HBW.out.size)
      have HF3 := Lib.hid (((HF.setCell (p := ⟨k + 1 + 1, 0, none⟩) (by have := HK.out; simp only []; omega) (.slice none 0 0)).setCell (p := ⟨k + 1 + 1 + 1, 0, none⟩) (by have := HK.out; simp only []; omega) (.slice none 0 0)).setCell (p := ⟨k + 1 + 1 + 1 + 1, 0, none⟩) (by have := HK.out; simp only []; omega) (.bool false))
      have HKD := Lib.hid ((KeepsOthers.setCell _ ⟨k + 1 + 1 + 1 + 1, 0, none⟩ (.bool false)).same D _ ((KeepsOthers.setCell _ ⟨k + 1 + 1 + 1, 0, none⟩ (.slice none 0 0)).same D _ ((KeepsOthers.setCell W ⟨k + 1 + 1, 0, none⟩ (.slice none 0 0)).same D _ hK rfl) rfl) rfl)
      have hks2 : k + 1 + 1 + 1 + 1 < D := by omega
      have ne : ∀ {a b : Nat}, a ≠ b → (some a : Option Nat) ≠ some b := fun h e => h (by injection e)
      obtain ⟨Z, HZ⟩ : ∃ z, Hid (z = ((W.setCell ⟨k + 1 + 1, 0, none⟩ (.slice none 0 0)).setCell ⟨k + 1 + 1 + 1, 0, none⟩ (.slice none 0 0)).setCell ⟨k + 1 + 1 + 1 + 1, 0, none⟩ (.bool false)) := ⟨_, rfl⟩
      have Z2 : Blk Z (k + 1 + 1) 25 [.slice none 0 0] := by
        have r : Blk (W.setCell ⟨k + 1 + 1, 0, none⟩ (.slice none 0 0)) (k + 1 + 1) 25 [.slice none 0 0] := X2.set (j := 0) _
        rw [HZ.out]; exact blk_stay (blk_stay r (grown_set _ _ _ _) (ne (by omega))) (grown_set _ _ _ _) (ne (by omega))
      have Z3 : Blk Z (k + 1 + 1 + 1) 25 [.slice none 0 0] := by
        have r0 : Blk (W.setCell ⟨k + 1 + 1, 0, none⟩ (.slice none 0 0)) (k + 1 + 1 + 1) 25 [.slice none 0 0] := blk_stay X3 (grown_set _ _ _ _) (ne (by omega))
        have r : Blk ((W.setCell ⟨k + 1 + 1, 0, none⟩ (.slice none 0 0)).setCell ⟨k + 1 + 1 + 1, 0, none⟩ (.slice none 0 0)) (k + 1 + 1 + 1) 25 [.slice none 0 0] := r0.set (j := 0) _
        rw [HZ.out]; exact blk_stay r (grown_set _ _ _ _) (ne (by omega))
      have Z4 : Blk Z (k + 1 + 1 + 1 + 1) 4 [.bool false] := by
        have r0 := blk_stay (blk_stay X4 (grown_set W (k + 1 + 1) 0 (.slice none 0 0)) (ne (by omega))) (grown_set _ (k + 1 + 1 + 1) 0 (.slice none 0 0)) (ne (by omega))
        rw [HZ.out]; exact r0.set (j := 0) _
      have M2 : Blk (Z.putObj D (.deferred none)) (k + 1 + 1) 25 [.slice none 0 0] := (World.putObj_heap_other (by omega)).trans Z2
      have M3 : Blk (Z.putObj D (.deferred none)) (k + 1 + 1 + 1) 25 [.slice none 0 0] := (World.putObj_heap_other (by omega)).trans Z3
      have M4 : Blk (Z.putObj D (.deferred none)) (k + 1 + 1 + 1 + 1) 4 [.bool false] := (World.putObj_heap_other (by omega)).trans Z4
      have m2 := M2.cell (j := 0) rfl
      have m3 := M3.cell (j := 0) rfl
      have m4 := M4.cell (j := 0) rfl
      have HZD : Hid (Below w.heap.size w (Z.putObj D (.deferred none))) := Lib.hid (by
        have hz : Below w.heap.size w Z := by rw [HZ.out]; exact HF3.out
        have hk := HK.out
        exact hz.trans ⟨rfl, rfl, rfl, by simp, fun i hi => World.putObj_heap_other (by omega)⟩)
      have HKZ : Hid (Z.heap[D]? = some (.deferred (some []))) := Lib.hid (by rw [HZ.out]; exact HKD.out)
      have HZ' := Lib.hid HZ.out.symm
      clear HF X2 X3 X4 hne Z2 Z3 Z4 M2 M3 M4 HKD HF3 ne HZ
      gi_wp2
      rw [HZ'.out]
      refine ⟨by simp, .inl ⟨_, _, rfl, run_takeDeferred HKZ.out, ?_⟩⟩
      refine ⟨.tuple #[.slice none 0 0, .slice none 0 0, .bool false], ?_, HZD.out, (none, 0, 0), (none, 0, 0), by rw [hok]; rfl, by rw [HAL.out]; exact own_nil _ _, by rw [HAS.out]; exact own_nil _ _, fun g hg => by cases hg⟩
      rw [results_cell3 rfl]
      go_simp
    case stop =>
      rintro D m c pre W hD hSp ⟨rfl, ⟨s1, s2, s3⟩, ⟨q1, q2, q3⟩, h1, h2, h3, h4, h5, h6, h7, h8, h9, h10⟩ hK
      have M2 : Blk (W.putObj D (.deferred none)) (k + 1 + 1) 25 [.slice s1 s2 s3] := (World.putObj_heap_other (by omega)).trans h1
      have M3 : Blk (W.putObj D (.deferred none)) (k + 1 + 1 + 1) 25 [.slice q1 q2 q3] := (World.putObj_heap_other (by omega)).trans h2
      have M4 : Blk (W.putObj D (.deferred none)) (k + 1 + 1 + 1 + 1) 4 [.bool true] := (World.putObj_heap_other (by omega)).trans h3
      have m2 := M2.cell (j := 0) rfl
      have m3 := M3.cell (j := 0) rfl
      have m4 := M4.cell (j := 0) rfl
      have HKW := HK.out
      have HOS : Hid (Own (W.putObj D (.deferred none)) w.heap.size s1 s2 s3 (atL p N)) := Lib.hid (own_put_def (h4.base (by have := HBW.out.size; omega)) hK)
      have HOT : Hid (Own (W.putObj D (.deferred none)) w.heap.size q1 q2 q3 (atS p N)) := Lib.hid (own_put_def (h5.base (by have := HBW.out.size; omega)) hK)
      have HZD : Hid (Below w.heap.size w (W.putObj D (.deferred none))) := Lib.hid (h9.trans ⟨rfl, rfl, rfl, by simp, fun i hi => World.putObj_heap_other (by omega)⟩)
      have H6 := Lib.hid h6
      have H7 := Lib.hid h7
      clear h1 h2 h3 h4 h5 h6 h7 h8 h9 h10 M2 M3 M4 HKW hSp
      gi_wp2
      refine ⟨by simp, .inl ⟨_, _, rfl, run_takeDeferred hK, ?_⟩⟩
      refine ⟨.tuple #[.slice s1 s2 s3, .slice q1 q2 q3, .bool true], ?_, HZD.out, (s1, s2, s3), (q1, q2, q3), by rw [H7.out]; rfl, HOS.out, HOT.out, H6.out⟩
      rw [results_cell3 rfl]
      go_simp
end Go.Proofs.Ytflojbjeloilaaa
/- The contracts of the model's l7Maxes, l7Count, InputsIn and BitsIn. -/
namespace Go.Proofs.Ytflojbjeloilaaa
open Go.RowKit

theorem max_in {ts : List Tm} {k : Nat} (hs : Small ts) (hk : k < ts.length) {x y : Int} (hz : Hid (tmAt ts k = (x, y))) : In64 x := by
  have := hs k hk
  rw [hz.out] at this
  exact ⟨by simp only [] at this; omega, by simp only [] at this; omega⟩
theorem maxes_succ {ts : List Tm} {k : Nat} {x y : Int} (hk : k < ts.length) (hz : Hid (tmAt ts k = (x, y))) : maxesL (ts.take (k + 1)) = maxesL (ts.take k) ++ [x] := by
  have e : ts[k] = (x, y) := by have := hz.out; simpa [tmAt, List.getD_eq_getElem?_getD, List.getElem?_eq_getElem hk] using this
  simp [maxesL, List.take_add_one, List.getElem?_eq_getElem hk, e]
set_option maxHeartbeats 1600000 in
theorem l7Maxes_any (r : PRow) (p : Prg) (w : World) (h : ProgAt w r p) (hl1 : p.lows.length ≤ 3) (hl2 : p.secrets.length ≤ 3) :
    Calls Try.prog 46 #[progV r] w (MadeInts w (maxesP p)) := by
  obtain ⟨wd, ⟨a1, n1, c1⟩, ⟨a2, n2, c2⟩, tp, ⟨a3, n3, c3⟩, ⟨a4, n4, c4⟩, rows⟩ := r
  show Calls Try.prog 46 #[.agg #[.int .i64 wd, .slice a1 n1 c1, .slice a2 n2 c2, .int .i64 tp, .slice a3 n3 c3, .slice a4 n4 c4]] w _
  have h1 := h.lows
  have h2 := h.secrets
  simp only [] at h1 h2
  have L1 := Lib.hid h1.1
  have L2 := Lib.hid h2.1
  have hn1 : n1 ≤ 3 := by rw [← L1.out]; exact hl1
  have hn2 : n2 ≤ 3 := by rw [← L2.out]; exact hl2
  have H1 := Lib.hid h1
  have H2 := Lib.hid h2
  clear h h1 h2 hl1 hl2
  obtain ⟨wa, HW⟩ : ∃ wa, Hid (wa = w.alloc (.cells #[.int .i64 wd, .slice a1 n1 c1, .slice a2 n2 c2, .int .i64 tp, .slice a3 n3 c3, .slice a4 n4 c4] 28)) := ⟨_, rfl⟩
  have BX : Blk wa w.heap.size 28 [.int .i64 wd, .slice a1 n1 c1, .slice a2 n2 c2, .int .i64 tp, .slice a3 n3 c3, .slice a4 n4 c4] := by rw [HW.out]; exact Blk.new w _ _
  have HB : Below w.heap.size w wa := by rw [HW.out]; exact (Below.refl _ _).alloc (Nat.le_refl _) _
  have H1 := Lib.hid (H1.out.below (Nat.le_refl _) HB)
  have H2 := Lib.hid (H2.out.below (Nat.le_refl _) HB)
  have HX := Lib.hid BX
  have HSZ : Hid (wa.heap.size = w.heap.size + 1) := Lib.hid (by rw [HW.out]; simp)
  clear BX
  go_enter Try.func46, Try.ntmps46
  go_wp2_with fail
  rw [← HW.out]
  go_loopw [3, 4] (fun v i wr => ∃ (k : Nat) (a : Option Addr) (c : Nat), k ≤ n1 ∧ i = .int .i64 k ∧ v = .slice a k c ∧ Own wr wa.heap.size a k c (maxesL (p.lows.take k)) ∧ Below wa.heap.size wa wr) (fun _ i _ => n1 - (intOf i).toNat)
  case atStart => exact ⟨0, _, _, by omega, rfl, rfl, by have := own_empty wa wa.heap.size (Nat.le_refl _); simpa [HSZ.out, maxesL] using this, (Below.refl _ _).alloc (Nat.le_refl _) _⟩
  case round =>
    obtain ⟨k, a, c, hk, rfl, rfl, hown, hbel⟩ := hrel
    have hbs := hbel.size
    have t1 := (HX.out.below hbel HX.out.lt).cell (j := 1) rfl
    by_cases hlt : k < n1
    · obtain ⟨b, o, x, y, rfl, hb, hz, hin1, hin2, hc1, hc2⟩ := (H1.out.below (Nat.le_refl _) hbel).at_ hlt
      clear hc2 hin2
      go_wp2_with (at_builtin; refine wpList_push _ rfl _ _ rfl wa.heap.size _ _ _ (maxesL (p.lows.take k)) rfl (hown.alloc _) wr.heap.size x rfl (by simp) hin1 (by omega) (by simp; omega) ?_)
      intro a8 c8 w8 hown8 hg8
      have hb8 := below_push (hbel.alloc hbs _) (hown.alloc _) (by simp; omega) hg8
      rw [← maxes_succ (by rw [L1.out]; exact hlt) hz] at hown8
      clear hown hg8 hbel t1 hc1
      go_wp2
      go_roundw
      case rel => exact ⟨k + 1, a8, c8, by omega, by go_num, rfl, hown8, hb8⟩
      case measure => simp [intOf]; omega
    · obtain rfl : n1 = k := by omega
      have HO : Hid (Own wr wa.heap.size a n1 c (maxesL p.lows ++ maxesL (p.secrets.take 0))) := Lib.hid (by
        rw [List.take_of_length_le (by rw [L1.out]; exact Nat.le_refl _)] at hown
        simpa [maxesL] using hown)
      have HBE := Lib.hid hbel
      clear hown hbel
      go_wp2_with fail
      go_loopw [3, 5] (fun v i wr => ∃ (k : Nat) (a : Option Addr) (c : Nat), k ≤ n2 ∧ i = .int .i64 k ∧ v = .slice a (n1 + k) c ∧ Own wr wa.heap.size a (n1 + k) c (maxesL p.lows ++ maxesL (p.secrets.take k)) ∧ Below wa.heap.size wa wr) (fun _ i _ => n2 - (intOf i).toNat)
      case atStart => exact ⟨0, _, _, by omega, rfl, rfl, HO.out, HBE.out⟩
      case round =>
        clear HO HBE t1
        obtain ⟨k, a, c, hk, rfl, rfl, hown, hbel⟩ := hrel
        have hbs := hbel.size
        have t2 := (HX.out.below hbel HX.out.lt).cell (j := 2) rfl
        by_cases hlt : k < n2
        · obtain ⟨b, o, x, y, rfl, hb, hz, hin1, hin2, hc1, hc2⟩ := (H2.out.below (Nat.le_refl _) hbel).at_ hlt
          clear hc2 hin2
          go_wp2_with (at_builtin; refine wpList_push _ rfl _ _ rfl wa.heap.size _ _ _ (maxesL p.lows ++ maxesL (p.secrets.take k)) rfl (hown.alloc _) wr.heap.size x rfl (by simp) hin1 (by omega) (by simp; omega) ?_)
          intro a8 c8 w8 hown8 hg8
          have hb8 := below_push (hbel.alloc hbs _) (hown.alloc _) (by simp; omega) hg8
          rw [← maxes_succ (by rw [L2.out]; exact hlt) hz] at hown8
          clear hown hg8 hbel t2 hc1
          go_wp2
          go_roundw
          case rel => exact ⟨k + 1, a8, c8, by omega, by go_num, rfl, hown8, hb8⟩
          case measure => simp [intOf]; omega
        · obtain rfl : n2 = k := by omega
          rw [List.take_of_length_le (by rw [L2.out]; exact Nat.le_refl _), show maxesL p.lows ++ maxesL p.secrets = maxesP p by simp [maxesP, maxesL]] at hown
          have hown := hown.base HB.size
          have hbel := HB.trans (hbel.mono HB.size)
          go_wp2
          go_ret
          exact ⟨_, _, _, rfl, hown, hbel⟩
set_option maxHeartbeats 800000 in
theorem l7Count_any (a : Option Addr) (n c : Nat) (ms : List Int) (w : World) (h : Ints w a n ms) (hm : MaxOk ms) :
    Calls Try.prog 45 #[.slice a n c] w fun e w' => e = .returned (.int .i64 (countTo ms ms.length)) ∧ w = w' := by
  have HL := Lib.hid h.1
  have HM := Lib.hid hm
  have hn : n ≤ 6 := by rw [← HL.out]; exact hm.1
  clear hm
  go_enter Try.func45, Try.ntmps45
  go_wp2
  go_loop [3, 4] (fun q i => ∃ k : Nat, k ≤ n ∧ i = .int .i64 (k : Int) ∧ q = .int .i64 (countTo ms k)) (fun _ i => n - (intOf i).toNat)
  case atStart => exact ⟨0, Nat.zero_le _, rfl, rfl⟩
  case round =>
    obtain ⟨k, hk, rfl, rfl⟩ := hrel
    by_cases hlt : k < n
    · obtain ⟨b, o, z, rfl, hb, hz, hin, hc⟩ := h.at_ hlt
      obtain ⟨p1, p2⟩ := countTo_pos HM.out k (by rw [HL.out]; omega)
      obtain ⟨p3, p4⟩ := countTo_pos HM.out (k + 1) (by rw [HL.out]; omega)
      obtain ⟨z1, z2⟩ := HM.out.2 k (by rw [HL.out]; exact hlt)
      rw [← hz.out] at z1 z2
      have q1 : 256 ^ k ≤ 256 ^ 6 := Nat.pow_le_pow_right (by omega) (by omega)
      have q2 : 256 ^ (k + 1) ≤ 256 ^ 6 := Nat.pow_le_pow_right (by omega) (by omega)
      have HS : Hid (countTo ms (k + 1) = countTo ms k * (z + 1)) := Lib.hid (by rw [countTo, hz.out])
      rw [HS.out] at p3 p4
      have b2 : countTo ms k ≤ 281474976710656 := by omega
      have b4 : countTo ms k * (z + 1) ≤ 281474976710656 := by omega
      clear p2 p4 q1 q2
      generalize countTo ms k = Q at p1 p3 b2 b4 HS ⊢
      go_wp2
      go_round
      case rel => exact ⟨k + 1, by omega, by go_num, by rw [HS.out]⟩
      case measure => simp [intOf]; omega
    · obtain rfl : n = k := by omega
      go_wp2
      go_ret
      exact ⟨ret_int (by rw [HL.out]), rfl⟩
set_option maxHeartbeats 800000 in
theorem specInputsIn_any (r : PRow) (p : Prg) (w : World) (h : ProgAt w r p) :
    Calls Try.prog 14 #[progV r] w fun e w' => e = .returned (.int .i64 (countB p)) ∧ Below w.heap.size w w' := by
  have HC : Hid (∀ w', Below w.heap.size w w' → Calls Try.prog 20 #[progV r] w' fun e w'' => e = .returned (.bool (codeB p == 0)) ∧ Below w'.heap.size w' w'') := Lib.hid (fun w' hw => specProgOk_any r p w' (h.below hw))
  have HM : Hid (codeB p = 0 → ∀ w', Below w.heap.size w w' → Calls Try.prog 46 #[progV r] w' (MadeInts w' (maxesP p))) := Lib.hid (fun hz w' hw => l7Maxes_any r p w' (h.below hw) (code_inputs hz).1 (code_inputs hz).2.1)
  obtain ⟨S, HS⟩ : ∃ S, Hid (countB p = S) := ⟨_, rfl⟩
  rw [HS.out]
  obtain ⟨wd, ⟨a1, n1, c1⟩, ⟨a2, n2, c2⟩, tp, ⟨a3, n3, c3⟩, ⟨a4, n4, c4⟩, rows⟩ := r
  show Calls Try.prog 14 #[.agg #[.int .i64 wd, .slice a1 n1 c1, .slice a2 n2 c2, .int .i64 tp, .slice a3 n3 c3, .slice a4 n4 c4]] w _
  clear h
  obtain ⟨wa, HW⟩ : ∃ wa, Hid (wa = w.alloc (.cells #[.int .i64 wd, .slice a1 n1 c1, .slice a2 n2 c2, .int .i64 tp, .slice a3 n3 c3, .slice a4 n4 c4] 28)) := ⟨_, rfl⟩
  have B : Blk wa w.heap.size 28 [.int .i64 wd, .slice a1 n1 c1, .slice a2 n2 c2, .int .i64 tp, .slice a3 n3 c3, .slice a4 n4 c4] := by rw [HW.out]; exact Blk.new w _ _
  have HB : Below w.heap.size w wa := by rw [HW.out]; exact (Below.refl _ _).alloc (Nat.le_refl _) _
  by_cases hz : codeB p = 0
  · have hzz : (codeB p == 0) = true := by simpa using hz
    rw [hzz] at HC
    have HMX := Lib.hid (code_max hz)
    have hS : countTo (maxesP p) (maxesP p).length = S := by rw [← HS.out, countB, if_pos hz]
    have HM := Lib.hid (HM.out hz)
    clear hz hzz HS
    go_enter Try.func14, Try.ntmps14
    go_wp2_with fail
    rw [← HW.out]
    refine (HC.out _ HB).mono ?_
    rintro e w1 ⟨rfl, hb1⟩
    have B := B.below hb1 B.lt
    have HB := HB.trans (hb1.mono HB.size)
    have t0 := B.cell (j := 0) rfl
    have t1 := B.cell (j := 1) rfl
    have t2 := B.cell (j := 2) rfl
    have t3 := B.cell (j := 3) rfl
    have t4 := B.cell (j := 4) rfl
    have t5 := B.cell (j := 5) rfl
    go_wp2_with fail
    refine (HM.out _ HB).mono ?_
    rintro e w2 ⟨sa, sn, sc, rfl, ho, hb2⟩
    have HB := HB.trans (hb2.mono HB.size)
    clear t0 t1 t2 t3 t4 t5 B hb1 hb2
    go_wp2_with fail
    refine (l7Count_any _ _ _ _ _ ho.ints HMX.out).mono ?_
    rintro e w3 ⟨rfl, rfl⟩
    rw [hS]
    clear ho hS
    go_wp2
    go_ret
    exact ⟨rfl, HB⟩
  · have hzz : (codeB p == 0) = false := by simpa using hz
    rw [hzz] at HC
    have hS : S = -1 := by rw [← HS.out, countB, if_neg hz]
    subst hS
    clear hz hzz HS HM
    go_enter Try.func14, Try.ntmps14
    go_wp2_with fail
    rw [← HW.out]
    refine (HC.out _ HB).mono ?_
    rintro e w1 ⟨rfl, hb1⟩
    have HB := HB.trans (hb1.mono HB.size)
    go_wp2
    go_ret
    exact ⟨rfl, HB⟩
set_option maxHeartbeats 800000 in
theorem specBitsIn_any (r : PRow) (p : Prg) (w : World) (h : ProgAt w r p) :
    Calls Try.prog 25 #[progV r] w fun e w' => e = .returned (.int .i64 (bitsInB p)) ∧ Below w.heap.size w w' := by
  have HC : Hid (∀ w', Below w.heap.size w w' → Calls Try.prog 20 #[progV r] w' fun e w'' => e = .returned (.bool (codeB p == 0)) ∧ Below w'.heap.size w' w'') := Lib.hid (fun w' hw => specProgOk_any r p w' (h.below hw))
  obtain ⟨S, HS⟩ : ∃ S, Hid (bitsInB p = S) := ⟨_, rfl⟩
  rw [HS.out]
  have HM : Hid (codeB p = 0 → ∀ w', Below w.heap.size w w' → Calls Try.prog 39 #[progV r] w' fun e w'' => e = .returned (.int .i64 S) ∧ Below w'.heap.size w' w'') := Lib.hid (fun hz w' hw => (l3AllBits_any r p w' (h.below hw)).mono (fun e w'' hh => ⟨by rw [hh.1, ← HS.out, bitsInB, if_pos hz], hh.2⟩))
  obtain ⟨wd, ⟨a1, n1, c1⟩, ⟨a2, n2, c2⟩, tp, ⟨a3, n3, c3⟩, ⟨a4, n4, c4⟩, rows⟩ := r
  show Calls Try.prog 25 #[.agg #[.int .i64 wd, .slice a1 n1 c1, .slice a2 n2 c2, .int .i64 tp, .slice a3 n3 c3, .slice a4 n4 c4]] w _
  clear h
  obtain ⟨wa, HW⟩ : ∃ wa, Hid (wa = w.alloc (.cells #[.int .i64 wd, .slice a1 n1 c1, .slice a2 n2 c2, .int .i64 tp, .slice a3 n3 c3, .slice a4 n4 c4] 28)) := ⟨_, rfl⟩
  have B : Blk wa w.heap.size 28 [.int .i64 wd, .slice a1 n1 c1, .slice a2 n2 c2, .int .i64 tp, .slice a3 n3 c3, .slice a4 n4 c4] := by rw [HW.out]; exact Blk.new w _ _
  have HB : Below w.heap.size w wa := by rw [HW.out]; exact (Below.refl _ _).alloc (Nat.le_refl _) _
  by_cases hz : codeB p = 0
  · have hzz : (codeB p == 0) = true := by simpa using hz
    rw [hzz] at HC
    have HM := Lib.hid (HM.out hz)
    clear hz hzz HS
    go_enter Try.func25, Try.ntmps25
    go_wp2_with fail
    rw [← HW.out]
    refine (HC.out _ HB).mono ?_
    rintro e w1 ⟨rfl, hb1⟩
    have B := B.below hb1 B.lt
    have HB := HB.trans (hb1.mono HB.size)
    have t0 := B.cell (j := 0) rfl
    have t1 := B.cell (j := 1) rfl
    have t2 := B.cell (j := 2) rfl
    have t3 := B.cell (j := 3) rfl
    have t4 := B.cell (j := 4) rfl
    have t5 := B.cell (j := 5) rfl
    go_wp2_with fail
    refine (HM.out _ HB).mono ?_
    rintro e w2 ⟨rfl, hb2⟩
    have HB := HB.trans (hb2.mono HB.size)
    clear t0 t1 t2 t3 t4 t5 B hb1 hb2
    go_wp2
    go_ret
    exact ⟨rfl, HB⟩
  · have hzz : (codeB p == 0) = false := by simpa using hz
    rw [hzz] at HC
    have hS : S = -1 := by rw [← HS.out, bitsInB, if_neg hz]
    subst hS
    clear hz hzz HS HM
    go_enter Try.func25, Try.ntmps25
    go_wp2_with fail
    rw [← HW.out]
    refine (HC.out _ HB).mono ?_
    rintro e w1 ⟨rfl, hb1⟩
    have HB := HB.trans (hb1.mono HB.size)
    go_wp2
    go_ret
    exact ⟨rfl, HB⟩
end Go.Proofs.Ytflojbjeloilaaa
/- The contract of the model's InputAt. -/
namespace Go.Proofs.Ytflojbjeloilaaa
open Go.RowKit

/-- What an append onto an empty literal at block b leaves: nothing, or a row there or behind N. -/
def Fix (w : World) (N b : Nat) (a : Option Addr) (m c : Nat) (ys : List Int) : Prop := m ≤ 1048576 ∧ ((m = 0 ∧ ys = []) ∨ ∃ g, a = some ⟨g, 0, none⟩ ∧ Own w 0 a m c ys ∧ (g = b ∨ N ≤ g))
theorem Fix.ints {w : World} {N b m c : Nat} {a : Option Addr} {ys : List Int} (h : Fix w N b a m c ys) : Ints w a m ys := by
  rcases h with ⟨_, ⟨rfl, rfl⟩ | ⟨g, rfl, ho, _⟩⟩
  · exact ⟨rfl, by omega, fun z hz => (by cases hz), fun hp => absurd hp (by omega)⟩
  · exact ho.ints
theorem Fix.below {w w' : World} {N b m c : Nat} {a : Option Addr} {ys : List Int} (h : Fix w N b a m c ys) (hb : Below w.heap.size w w') : Fix w' N b a m c ys := by
  rcases h with ⟨hm, h | ⟨g, hg, ho, hl⟩⟩
  · exact ⟨hm, .inl h⟩
  · exact ⟨hm, .inr ⟨g, hg, ho.below hb, hl⟩⟩
theorem Fix.other {w w' : World} {N b b' m c : Nat} {a : Option Addr} {ys : List Int} (h : Fix w N b a m c ys) (hg : w.grownBy w' (some b')) (hb : b' ≠ b) (hN : b' < N ∨ w.heap.size ≤ b') : Fix w' N b a m c ys := by
  rcases h with ⟨hm, h | ⟨g, rfl, ho, hl⟩⟩
  · exact ⟨hm, .inl h⟩
  · refine ⟨hm, .inr ⟨g, rfl, ho.keep hg (fun g' hg' e => ?_), hl⟩⟩
    have hg'' : some g = some g' := hg'
    injection hg'' with hg''
    injection e with e
    have := (ho.block g rfl).2
    omega
theorem step_cloneE {ops : Array Oper} {o : Oper} {ac : Act} {K : Act → World → Prop} {Q : Exit → Act → World → Prop} {E : Prop} (w : World) (hgd : o.guard = none) (s x : Operand)
    (ho : o.op = .call { callee := .builtin .append, args := #[s, x], argTypes := #[25, 25] })
    (b : Nat) (hs : ac.eval s = .slice (some ⟨b, 0, none⟩) 0 0) (hown : Own w 0 (some ⟨b, 0, none⟩) 0 0 [])
    (a2 : Option Addr) (m c2 : Nat) (ys : List Int) (hx : ac.eval x = .slice a2 m c2) (hi2 : Ints w a2 m ys)
    (h : ∀ a1 c1 w', Fix w' w.heap.size b a1 m c1 ys → w.grownBy w' (some b) → K (ac.put o.dst (.slice a1 m c1)) w') :
    if Region.wanted o (yielded ops ac.tmps) = true then Oper.wp Try.prog o ac w K Q else E := by
  have hm := hi2.2.1
  rcases Nat.eq_zero_or_pos m with h0 | h0
  · subst h0
    have hys : ys = [] := List.eq_nil_of_length_eq_zero hi2.1
    subst hys
    have hwant : Region.wanted o (yielded ops ac.tmps) = true := by simp [Region.wanted, hgd]
    rw [if_pos hwant]
    cases a2 with
    | none =>
      have hrun := run_append_nothing w o.type (.slice (some ⟨b, 0, none⟩) 0 0) 0 0 _ hown.1 c2
      unfold Oper.wp
      simp [execOp, ho, resolve, invoke, builtin, hs, hx, hrun, Result.andThen]
      exact h _ _ _ ⟨hm, .inl ⟨rfl, rfl⟩⟩ (World.grownBy.refl _ _)
    | some ad =>
      obtain ⟨i0, hi, hz0, hz1, hz2⟩ := info_parts info_i64
      refine wp_append_own w s x 25 ho 0 2 i0 (.int .i64 0) 1 8 Try.underlying25 hi hz0 hz1 hz2 rfl (by omega) (.slice (some ⟨b, 0, none⟩) 0 0) 0 [] hs hown.1 ad 0 c2 [] hx rfl (fun j u hj => by cases hj) (fun u hu => by cases hu) (by unfold maxLen; omega) (by omega) (by omega) ?_
      intro v' w' h1 h2 _
      have hf : ∃ a1 c1, v' = .slice a1 0 c1 := by
        rcases h1.2 with ⟨e, h0⟩ | ⟨g', cap, cur, e, _⟩
        · exact ⟨none, 0, e⟩
        · exact ⟨_, _, e⟩
      obtain ⟨a1, c1, rfl⟩ := hf
      exact h a1 c1 w' ⟨hm, .inl ⟨rfl, rfl⟩⟩ h2
  · obtain ⟨b2, o2, rfl, hb2, hc⟩ := hi2.2.2.2 h0
    refine step_pushG w hgd s x 25 2 (.int .i64 0) 1 8 ho Try.underlying25 info_i64 rfl (by omega) 0 (some ⟨b, 0, none⟩) 0 0 [] hs hown.1 ⟨b2, o2, none⟩ m c2 (ys.map (Value.int .i64)) hx (by simp [hi2.1]) ?_ (ints_oneCell _ _) h0 (by unfold maxLen; omega) (by omega) (by omega) ?_
    · intro j u hj
      have hjl : j < ys.length := by have := (List.getElem?_eq_some_iff.1 hj).1; simpa using this
      rw [Go.WideShapes.add_plain, hc j (by have := hi2.1; omega), ← hj]
      simp [List.getD_eq_getElem?_getD, hjl]
    · intro g c1 w' r1 r2
      have hl : g = b ∨ w.heap.size ≤ g := by
        rcases r2.2 g rfl with e | e
        · exact .inl (by have e' : some b = some g := e; injection e' with e'; exact e'.symm)
        · exact .inr e
      have hK := h (some ⟨g, 0, none⟩) c1 w' ⟨hm, .inr ⟨g, rfl, ⟨by simpa using r1, hm, hi2.2.2.1⟩, hl⟩⟩ r2.1
      simpa using hK
theorem belD (w : World) : Below w.heap.size w w.drew := ⟨rfl, rfl, rfl, Nat.le_refl _, fun _ _ => rfl⟩
theorem belG {w w' w'' : World} {b : Nat} (h : Below w.heap.size w w') (hg : w'.grownBy w'' (some b)) (hb : w.heap.size ≤ b) : Below w.heap.size w w'' := h.grown hg h.size (fun k e => by injection e with e; omega)
theorem belN {w w' : World} (h : Below w.heap.size w w') : Below w.heap.size w w'.drew := ⟨h.os, h.tape, h.output, h.size, h.block⟩
theorem ownD {w : World} {b : Nat} (h : Own w 0 (some ⟨b, 0, none⟩) 0 0 []) : Own w.drew 0 (some ⟨b, 0, none⟩) 0 0 [] := h
theorem own_empty' (X : World) (b : Nat) (h : X.heap.size = b) : Own (X.alloc (.cells #[] 2)) 0 (some ⟨b, 0, none⟩) 0 0 [] := by rw [← h]; exact own_empty X 0 (Nat.zero_le _)
theorem ownK {w w' : World} {b b' : Nat} (h : Own w 0 (some ⟨b, 0, none⟩) 0 0 []) (hg : w.grownBy w' (some b')) (hne : b' ≠ b) : Own w' 0 (some ⟨b, 0, none⟩) 0 0 [] := h.keep hg (fun g hg' e => by
  have hg'' : some b = some g := hg'
  injection hg'' with hg''
  injection e with e
  omega)
/-- What the model's InputAt leaves. -/
def AtSaid (w : World) (p : Prg) (N : Int) (e : Ending) (w' : World) : Prop :=
  Below w.heap.size w w' ∧ ∃ s t : Sl, e = .returned (.tuple #[slV s, slV t, .bool (atOk p N)]) ∧ Ints w' s.1 s.2.1 (atL p N) ∧ Ints w' t.1 t.2.1 (atS p N)
theorem ints_nil (w : World) (a : Option Addr) : Ints w a 0 [] := ⟨rfl, by omega, fun z hz => (by cases hz), fun hp => absurd hp (by omega)⟩
theorem l1In_any (x lo hi : Int) (w : World) : Calls Try.prog 37 #[.int .i64 x, .int .i64 lo, .int .i64 hi] w fun e w' => e = .returned (.bool (decide (lo ≤ x) && decide (x ≤ hi))) ∧ w' = w := by
  obtain ⟨R, HR⟩ : ∃ R, Hid ((decide (lo ≤ x) && decide (x ≤ hi)) = R) := ⟨_, rfl⟩
  rw [HR.out]
  go_enter Try.func37, Try.ntmps37
  by_cases h1 : lo ≤ x
  · by_cases h2 : x ≤ hi
    · obtain rfl : R = true := by rw [← HR.out, decide_eq_true h1, decide_eq_true h2]; rfl
      go_wp2
      go_ret
      exact ⟨rfl, rfl⟩
    · obtain rfl : R = false := by rw [← HR.out, decide_eq_false h2, Bool.and_false]
      go_wp2
      go_ret
      exact ⟨rfl, rfl⟩
  · obtain rfl : R = false := by rw [← HR.out, decide_eq_false h1, Bool.false_and]
    go_wp2
    go_ret
    exact ⟨rfl, rfl⟩
set_option maxRecDepth 100000 in
set_option maxHeartbeats 4000000 in
theorem specInputAt_any (r : PRow) (p : Prg) (N : Int) (w : World) (h : ProgAt w r p) (_hN : In64 N) :
    Calls Try.prog 47 #[progV r, .int .i64 N] w (AtSaid w p N) := by
  have HC : Hid (∀ w', Below w.heap.size w w' → Calls Try.prog 20 #[progV r] w' fun e w'' => e = .returned (.bool (codeB p == 0)) ∧ Below w'.heap.size w' w'') := Lib.hid (fun w' hw => specProgOk_any r p w' (h.below hw))
  have HI : Hid (∀ w', Below w.heap.size w w' → Calls Try.prog 14 #[progV r] w' fun e w'' => e = .returned (.int .i64 (countB p)) ∧ Below w'.heap.size w' w'') := Lib.hid (fun w' hw => specInputsIn_any r p w' (h.below hw))
  have HM : Hid (codeB p = 0 → ∀ w', Below w.heap.size w w' → Calls Try.prog 46 #[progV r] w' (MadeInts w' (maxesP p))) := Lib.hid (fun hz w' hw => l7Maxes_any r p w' (h.below hw) (code_inputs hz).1 (code_inputs hz).2.1)
  have HN1 : Hid (r.lows.2.1 = p.lows.length) := Lib.hid h.lows.1.symm
  clear h
  obtain ⟨wd, ⟨a1, n1, c1⟩, ⟨a2, n2, c2⟩, tp, ⟨a3, n3, c3⟩, ⟨a4, n4, c4⟩, rows⟩ := r
  simp only [progV, slV] at HC HI HM HN1
  show Calls Try.prog 47 #[.agg #[.int .i64 wd, .slice a1 n1 c1, .slice a2 n2 c2, .int .i64 tp, .slice a3 n3 c3, .slice a4 n4 c4], .int .i64 N] w _
  obtain ⟨wa, HW⟩ : ∃ wa, Hid (wa = w.alloc (.cells #[.int .i64 wd, .slice a1 n1 c1, .slice a2 n2 c2, .int .i64 tp, .slice a3 n3 c3, .slice a4 n4 c4] 28)) := ⟨_, rfl⟩
  have B : Blk wa w.heap.size 28 [.int .i64 wd, .slice a1 n1 c1, .slice a2 n2 c2, .int .i64 tp, .slice a3 n3 c3, .slice a4 n4 c4] := by rw [HW.out]; exact Blk.new w _ _
  have HB : Below w.heap.size w wa := by rw [HW.out]; exact (Below.refl _ _).alloc (Nat.le_refl _) _
  by_cases hz : codeB p = 0
  case neg =>
    have hzz : (codeB p == 0) = false := by simpa using hz
    rw [hzz] at HC
    have hok : atOk p N = false := by simp [atOk, hz]
    have HAL : Hid (atL p N = []) := Lib.hid (by rw [atL, hok]; rfl)
    have HAS : Hid (atS p N = []) := Lib.hid (by rw [atS, hok]; rfl)
    clear hz hzz HI HM
    go_enter Try.func47, Try.ntmps47
    go_wp2_with fail
    rw [← HW.out]
    refine (HC.out _ HB).mono ?_
    rintro e w1 ⟨rfl, hb1⟩
    have HF := HB.trans (hb1.mono HB.size)
    have HF2 := Lib.hid (belA (o := .cells #[] 2) (belA (o := .cells #[] 2) HF))
    clear HF HB hb1 B HW
    go_wp2
    go_ret3
    exact ⟨HF2.out, (_, 0, 0), (_, 0, 0), by rw [hok]; rfl, by rw [HAL.out]; exact ints_nil _ _, by rw [HAS.out]; exact ints_nil _ _⟩
  case pos =>
    have hzz : (codeB p == 0) = true := by simpa using hz
    rw [hzz] at HC
    have HM := Lib.hid (HM.out hz)
    have hMX := wide_of_max hz
    have hL6 := (code_max hz).1
    have hC : countB p = prodL (maxesP p) := by rw [countB, if_pos hz, countTo_prod]
    rw [hC] at HI
    have hp1 := prodL_pos (fun m hm => (hMX m hm).1)
    have hp2 := prodL_small hMX hL6
    have hok : atOk p N = (decide (0 ≤ N) && decide (N ≤ prodL (maxesP p) - 1)) := by
      simp only [atOk, hz, decide_true, Bool.true_and]
      congr 1
      exact decide_eq_decide.2 ⟨fun h => by omega, fun h => by omega⟩
    have hnL : n1 ≤ (maxesP p).length := by rw [maxesP_len, HN1.out]; omega
    have HA : Hid (atOk p N = true → atL p N = (digs (maxesP p) N).take n1 ∧ atS p N = (digs (maxesP p) N).drop n1) := Lib.hid (fun h => by rw [atL, atS, if_pos h, if_pos h, HN1.out]; exact ⟨rfl, rfl⟩)
    have HNO : Hid (atOk p N = false → atL p N = [] ∧ atS p N = []) := Lib.hid (fun h => by rw [atL, atS, h]; exact ⟨rfl, rfl⟩)
    have HMX := Lib.hid hMX
    obtain ⟨C, HCC⟩ : ∃ C, Hid (prodL (maxesP p) = C) := ⟨_, rfl⟩
    rw [HCC.out] at HI hp1 hp2 hok
    obtain ⟨ok, HOK⟩ : ∃ ok, Hid (atOk p N = ok) := ⟨_, rfl⟩
    rw [HOK.out] at hok HA HNO
    have HL1 : Hid (∀ w' : World, Calls Try.prog 37 #[.int .i64 N, .int .i64 0, .int .i64 (C - 1)] w' fun e w'' => e = .returned (.bool ok) ∧ w'' = w') := Lib.hid (fun w' => by rw [hok]; exact l1In_any _ _ _ _)
    obtain ⟨ms, HMS⟩ : ∃ ms, Hid (maxesP p = ms) := ⟨_, Lib.hid rfl⟩
    rw [HMS.out] at HM HA hL6 hnL HMX HCC
    have HR : Hid (ok = true → 0 ≤ N ∧ N ≤ 281474976710656) := Lib.hid (fun h => by
      rw [h] at hok
      have := hok.symm
      simp only [Bool.and_eq_true, decide_eq_true_eq] at this
      omega)
    clear hz hzz hMX hC hok HMS HN1
    go_enter Try.func47, Try.ntmps47
    go_wp2_with fail
    rw [← HW.out]
    refine (HC.out _ HB).mono ?_
    rintro e w1 ⟨rfl, hb1⟩
    have B := B.below hb1 B.lt
    have HB := HB.trans (hb1.mono HB.size)
    have t0 := B.cell (j := 0) rfl
    have t1 := B.cell (j := 1) rfl
    have t2 := B.cell (j := 2) rfl
    have t3 := B.cell (j := 3) rfl
    have t4 := B.cell (j := 4) rfl
    have t5 := B.cell (j := 5) rfl
    clear hb1 HW
    go_wp2_with fail
    refine (HI.out _ HB).mono ?_
    rintro e w2 ⟨rfl, hb2⟩
    have B := B.below hb2 B.lt
    have HB := HB.trans (hb2.mono HB.size)
    clear hb2 t0 t1 t2 t3 t4 t5
    go_wp2_with fail
    refine (HL1.out _).mono ?_
    rintro e w3 ⟨rfl, rfl⟩
    cases ok with
    | false =>
      have HF2 := Lib.hid (belA (o := .cells #[] 2) (belA (o := .cells #[] 2) HB))
      have HNN := Lib.hid (HNO.out rfl)
      clear HB B HNO HA HR
      go_wp2
      go_ret3
      exact ⟨HF2.out, (_, 0, 0), (_, 0, 0), by rw [HOK.out]; rfl, by rw [HNN.out.1]; exact ints_nil _ _, by rw [HNN.out.2]; exact ints_nil _ _⟩
    | true =>
      obtain ⟨r0, r1⟩ := HR.out rfl
      have t0 := B.cell (j := 0) rfl
      have t1 := B.cell (j := 1) rfl
      have t2 := B.cell (j := 2) rfl
      have t3 := B.cell (j := 3) rfl
      have t4 := B.cell (j := 4) rfl
      have t5 := B.cell (j := 5) rfl
      go_wp2_with fail
      refine (HM.out _ HB).mono ?_
      rintro e w4 ⟨ma, mn, mc, rfl, hom, hb4⟩
      have hmn : mn ≤ 6 := by rw [← hom.len]; exact hL6
      have B := B.below hb4 B.lt
      have HB := HB.trans (hb4.mono HB.size)
      clear hb4 t0 t1 t2 t3 t4 t5
      go_wp2_with fail
      refine (l7At_any _ _ _ _ N _ hom.ints HMX.out r0 r1 hmn).mono ?_
      rintro e w5 ⟨g, zc, rfl, hoz, hb5⟩
      have B := B.below hb5 B.lt
      have HB := HB.trans (hb5.mono HB.size)
      have t1 := B.cell (j := 1) rfl
      have hzn : mn = ms.length := by rw [← hoz.len, digs_len]
      have hn1z : n1 ≤ mn := by omega
      subst hzn
      have hzc := hoz.cap
      have hn1c : n1 ≤ zc := by omega
      have HI1 : Hid (∀ w', Below w5.heap.size w5 w' → Ints w' (some ⟨g, 0, none⟩) n1 ((digs ms N).take n1)) := Lib.hid (fun w' hb => ((hoz.cut hn1z).below hb).ints)
      have HW5 := Lib.hid HB
      obtain ⟨A1, A2⟩ := HA.out trivial
      have HI2 : Hid (∀ w', Below w5.heap.size w5 w' → Ints w' (if zc = n1 then some ⟨g, 0, none⟩ else some ⟨g, n1, none⟩) (ms.length - n1) ((digs ms N).drop n1)) := Lib.hid (fun w' hb => ints_tail (hoz.below hb) hn1z hzc)
      clear hom hb5 hoz HB B HR HL1 HC HI HM
      go_wp2_with fail
      go_region_law (first
        | (refine step_cloneE _ (by rfl) _ _ (by rfl) _ (by rfl) (by first | (refine own_empty' _ _ ?_; simp; done) | (refine ownD (own_empty' _ _ ?_); simp; done) | (refine (own_empty' _ _ ?_).alloc _; simp; done) | (refine ownD ((own_empty' _ _ ?_).alloc _); simp; done) | (refine ownK (own_empty' _ _ ?_) y8 ?_ <;> first | (simp; done) | (simp; omega) | omega) | (refine ownK (ownD (own_empty' _ _ ?_)) y8 ?_ <;> first | (simp; done) | (simp; omega) | omega) | (refine ownK ((own_empty' _ _ ?_).alloc _) y8 ?_ <;> first | (simp; done) | (simp; omega) | omega) | (refine ownK (ownD ((own_empty' _ _ ?_).alloc _)) y8 ?_ <;> first | (simp; done) | (simp; omega) | omega) | (refine ownK (own_empty' _ _ ?_) y9 ?_ <;> first | (simp; done) | (simp; omega) | omega) | (refine ownK (ownD (own_empty' _ _ ?_)) y9 ?_ <;> first | (simp; done) | (simp; omega) | omega) | (refine ownK ((own_empty' _ _ ?_).alloc _) y9 ?_ <;> first | (simp; done) | (simp; omega) | omega) | (refine ownK (ownD ((own_empty' _ _ ?_).alloc _)) y9 ?_ <;> first | (simp; done) | (simp; omega) | omega)) (some ⟨g, 0, none⟩) n1 zc ((digs ms N).take n1) (by rfl) (HI1.out _ (by repeat' (first | exact belD _ | exact Below.refl _ _ | refine belN ?_ | refine belA ?_ | refine belG ?_ y8 ?_ | refine belG ?_ y9 ?_ | (simp; done) | (have := y8.size; simp at this ⊢; omega) | (have := y9.size; simp at this ⊢; omega)))) ?_; intro a8 c8 w8 x8 y8)
        | (refine step_cloneE _ (by rfl) _ _ (by rfl) _ (by rfl) (by first | (refine own_empty' _ _ ?_; simp; done) | (refine ownD (own_empty' _ _ ?_); simp; done) | (refine (own_empty' _ _ ?_).alloc _; simp; done) | (refine ownD ((own_empty' _ _ ?_).alloc _); simp; done) | (refine ownK (own_empty' _ _ ?_) y8 ?_ <;> first | (simp; done) | (simp; omega) | omega) | (refine ownK (ownD (own_empty' _ _ ?_)) y8 ?_ <;> first | (simp; done) | (simp; omega) | omega) | (refine ownK ((own_empty' _ _ ?_).alloc _) y8 ?_ <;> first | (simp; done) | (simp; omega) | omega) | (refine ownK (ownD ((own_empty' _ _ ?_).alloc _)) y8 ?_ <;> first | (simp; done) | (simp; omega) | omega) | (refine ownK (own_empty' _ _ ?_) y9 ?_ <;> first | (simp; done) | (simp; omega) | omega) | (refine ownK (ownD (own_empty' _ _ ?_)) y9 ?_ <;> first | (simp; done) | (simp; omega) | omega) | (refine ownK ((own_empty' _ _ ?_).alloc _) y9 ?_ <;> first | (simp; done) | (simp; omega) | omega) | (refine ownK (ownD ((own_empty' _ _ ?_).alloc _)) y9 ?_ <;> first | (simp; done) | (simp; omega) | omega)) _ (ms.length - n1) (zc - n1) ((digs ms N).drop n1) (by rfl) (HI2.out _ (by repeat' (first | exact belD _ | exact Below.refl _ _ | refine belN ?_ | refine belA ?_ | refine belG ?_ y8 ?_ | refine belG ?_ y9 ?_ | (simp; done) | (have := y8.size; simp at this ⊢; omega) | (have := y9.size; simp at this ⊢; omega)))) ?_; intro a9 c9 w9 x9 y9))
      all_goals go_wp2
      all_goals
        go_ret3
        refine ⟨HW5.out.trans (Below.mono ?hB HW5.out.size), (a8, n1, c8), (a9, ms.length - n1, c9), ?hE, ?h1, ?h2⟩
        case hE => rw [HOK.out]; rfl
        case hB => repeat' (first | exact belD _ | exact Below.refl _ _ | refine belN ?_ | refine belA ?_ | refine belG ?_ y8 ?_ | refine belG ?_ y9 ?_ | (simp; done) | (have := y8.size; simp at this ⊢; omega) | (have := y9.size; simp at this ⊢; omega))
        case h1 => rw [A1]; first | exact x8.ints | (refine (x8.other y9 ?_ ?_).ints <;> first | omega | (simp; done) | (simp; omega)) | exact (x8.below (belG (belA (Below.refl _ _)) y9 (Nat.le_refl _))).ints | exact (x8.below (belG (belN (belA (Below.refl _ _))) y9 (Nat.le_refl _))).ints
        case h2 => rw [A2]; first | exact x9.ints | (refine (x9.other y8 ?_ ?_).ints <;> first | omega | (simp; done) | (simp; omega)) | exact (x9.below (belG (belA (Below.refl _ _)) y8 (Nat.le_refl _))).ints | exact (x9.below (belG (belN (belA (Below.refl _ _))) y8 (Nat.le_refl _))).ints
end Go.Proofs.Ytflojbjeloilaaa
/- What a law holds of the memory while it asks: the arguments that it hands over (a program, two slices of numbers), in blocks of their own. -/
namespace Go.Proofs.Ytflojbjeloilaaa
open Go.RowKit

/-- The arguments: the program from block P0 on, the two slices from P1, P2 on; the program's box b10. -/
structure XG (vk : World) (P0 P1 P2 : Nat) (rx : PRow) (p : Prg) (s1 s2 : Sl) (zs1 zs2 : List Int) : Prop where
  x0 : OwnProg vk P0 rx p
  x1 : Own vk P1 s1.1 s1.2.1 s1.2.2 zs1
  x2 : Own vk P2 s2.1 s2.2.1 s2.2.2 zs2
theorem XG.below {vk vl : World} {P0 P1 P2 : Nat} {rx : PRow} {p : Prg} {s1 s2 : Sl} {zs1 zs2 : List Int} (h : XG vk P0 P1 P2 rx p s1 s2 zs1 zs2) (hb : Below vk.heap.size vk vl) : XG vl P0 P1 P2 rx p s1 s2 zs1 zs2 := ⟨h.x0.below hb, h.x1.below hb, h.x2.below hb⟩
/-- Where they lie. -/
structure XIn (P0 P1 P2 P3 : Nat) (rx : PRow) (s1 s2 : Sl) : Prop where
  x0 : ProgIn P0 P1 rx
  x1 : SlIn P1 P2 s1
  x2 : SlIn P2 P3 s2
  l1 : P0 ≤ P1
  l2 : P1 ≤ P2
  l3 : P2 ≤ P3
theorem Own.inside {w : World} {B : Nat} {s : Sl} {zs : List Int} (h : Own w B s.1 s.2.1 s.2.2 zs) : SlIn B w.heap.size s := fun g hg => h.block g hg
theorem SlIn.wide {lo hi lo' hi' : Nat} {s : Sl} (h : SlIn lo hi s) (h1 : lo' ≤ lo) (h2 : hi ≤ hi') : SlIn lo' hi' s := fun g hg => by have := h g hg; omega
end Go.Proofs.Ytflojbjeloilaaa
/- The answers of InputAt, as a law asks for them. -/
namespace Go.Proofs.Ytflojbjeloilaaa
open Go.RowKit

theorem atL_len (p : Prg) (N : Int) : (atL p N).length ≤ 1000 := by
  rw [atL]
  split
  · rename_i h
    have hz : codeB p = 0 := by simp [atOk] at h; exact h.1
    have := (code_max hz).1
    rw [List.length_take, digs_len]; omega
  · simp
theorem atS_len (p : Prg) (N : Int) : (atS p N).length ≤ 1000 := by
  rw [atS]
  split
  · rename_i h
    have hz : codeB p = 0 := by simp [atOk] at h; exact h.1
    have := (code_max hz).1
    rw [List.length_drop, digs_len]; omega
  · simp
theorem specInputAt_ans (r : PRow) (p : Prg) (N : Int) (w : World) (h : ProgAt w r p) (hN : In64 N) :
    Calls Try.prog 47 #[progV r, .int .i64 N] w fun e w' => Below w.heap.size w w' ∧ ∃ s t : Sl, e = .returned (.tuple #[slV s, slV t, .bool (atOk p N)]) ∧ Ints w' s.1 s.2.1 (atL p N) ∧ Ints w' t.1 t.2.1 (atS p N) := specInputAt_any r p N w h hN
theorem implInputAt_ans (r : PRow) (p : Prg) (N : Int) (w : World) (h : ProgAt w r p) (hcap : r.body.2.1 ≤ r.body.2.2) (hN : In64 N) :
    Calls Try.prog 26 #[progV r, .int .i64 N] w fun e w' => Below w.heap.size w w' ∧ ∃ s t : Sl, e = .returned (.tuple #[slV s, slV t, .bool (atOk p N)]) ∧ Own w' w.heap.size s.1 s.2.1 s.2.2 (atL p N) ∧ Own w' w.heap.size t.1 t.2.1 t.2.2 (atS p N) ∧ ∀ g, (slV s).ownBlock = some g → (slV t).ownBlock ≠ some g := implInputAt_any r p N w h hcap hN
end Go.Proofs.Ytflojbjeloilaaa
/- The number of an input leads back to it: plain mathematics. -/
namespace Go.Proofs.Ytflojbjeloilaaa
open Go.RowKit

theorem numFrom_cons (m z : Int) (ms zs : List Int) : ∀ k, k ≤ ms.length → numFrom (m :: ms) (z :: zs) k = numFrom ms zs k
  | 0, _ => rfl
  | k + 1, h => by
    rw [numFrom, numFrom, numFrom_cons m z ms zs k (by omega), List.length_cons, show ms.length + 1 - 1 - k = (ms.length - 1 - k) + 1 by omega, List.getD_cons_succ, List.getD_cons_succ]
theorem numFrom_digs : ∀ {ms : List Int}, (∀ m ∈ ms, 0 ≤ m) → ∀ {n : Int}, 0 ≤ n → n < prodL ms → numFrom ms (digs ms n) ms.length = n
  | [], _, n, h0, h1 => by
    simp only [prodL] at h1
    simp only [numFrom, List.length_nil]
    omega
  | m :: ms, h, n, h0, h1 => by
    have hm := h m (List.mem_cons_self)
    have hms := fun x hx => h x (List.mem_cons_of_mem _ hx)
    have e0 := Int.emod_add_mul_ediv n (m + 1)
    have q0 := Int.ediv_nonneg h0 (show 0 ≤ m + 1 by omega)
    have z0 := Int.emod_nonneg n (show m + 1 ≠ 0 by omega)
    rw [prodL] at h1
    have hqP : n / (m + 1) < prodL ms := by
      refine Int.lt_of_not_ge fun hge => ?_
      have : (m + 1) * prodL ms ≤ (m + 1) * (n / (m + 1)) := Int.mul_le_mul_of_nonneg_left hge (by omega)
      omega
    have ih := numFrom_digs hms q0 hqP
    rw [digs, List.length_cons, numFrom, numFrom_cons m _ ms _ _ (Nat.le_refl _), ih, List.length_cons, show ms.length + 1 - 1 - ms.length = 0 by omega]
    simp only [List.getD_cons_zero]
    rw [Int.mul_comm]
    omega
theorem at_app {p : Prg} {N : Int} (h : atOk p N = true) : atL p N ++ atS p N = digs (maxesP p) N := by
  rw [atL, atS, if_pos h, if_pos h, List.take_append_drop]
theorem digs_le : ∀ {ms : List Int}, (∀ m ∈ ms, 0 ≤ m) → ∀ (n : Int) (i : Nat), i < ms.length → 0 ≤ (digs ms n).getD i 0 ∧ (digs ms n).getD i 0 ≤ ms.getD i 0
  | [], _, _, i, hi => absurd hi (by simp)
  | m :: ms, h, n, 0, _ => by
    have hm := h m (List.mem_cons_self)
    have h1 := Int.emod_nonneg n (show m + 1 ≠ 0 by omega)
    have h2 := Int.emod_lt_of_pos n (show 0 < m + 1 by omega)
    rw [digs, List.getD_cons_zero, List.getD_cons_zero]
    omega
  | m :: ms, h, n, i + 1, hi => by
    rw [digs, List.getD_cons_succ, List.getD_cons_succ]
    exact digs_le (fun x hx => h x (List.mem_cons_of_mem _ hx)) _ i (by simpa using hi)
/-- There is a start at each input. -/
theorem at_start {p : Prg} {N : Int} (h : atOk p N = true) : startB p (atL p N) (atS p N) = true := by
  have hz : codeB p = 0 := by simp [atOk] at h; exact h.1
  have hw := wide_of_max hz
  have hle := digs_le (fun m hm => (hw m hm).1) N
  have hlen : (maxesP p).length = p.lows.length + p.secrets.length := maxesP_len p
  have hdl := digs_len (maxesP p) N
  have e1 : (codeB p == 0) = true := by simpa using hz
  rw [startB, e1, Bool.true_and]
  have hL : atL p N = (digs (maxesP p) N).take p.lows.length := by rw [atL, if_pos h]
  have hS : atS p N = (digs (maxesP p) N).drop p.lows.length := by rw [atS, if_pos h]
  have l1 : (atL p N).length = p.lows.length := by rw [hL, List.length_take]; omega
  have l2 : (atS p N).length = p.secrets.length := by rw [hS, List.length_drop]; omega
  have a1 : areB p.lows (atL p N) = true := areB_all l1 (fun i hi => by
    have hi' : i < p.lows.length := by omega
    have := hle i (by omega)
    rw [maxesP, maxesL_getD (by rw [List.length_append]; omega), tmAt_app_left hi'] at this
    rw [hL]
    simpa [List.getD_eq_getElem?_getD, List.getElem?_take, hi', maxesP] using this)
  have a2 : areB p.secrets (atS p N) = true := areB_all l2 (fun i hi => by
    have hi' : i < p.secrets.length := by omega
    have := hle (p.lows.length + i) (by omega)
    rw [maxesP, maxesL_getD (by rw [List.length_append]; omega), tmAt_app_right] at this
    rw [hS]
    simpa [List.getD_eq_getElem?_getD, List.getElem?_drop, maxesP] using this)
  rw [a1, a2]; rfl
/-- The number of an input leads back to it. -/
theorem num_at {p : Prg} {N : Int} (h : atOk p N = true) : numB p (atL p N) (atS p N) = N := by
  have hz : codeB p = 0 := by simp [atOk] at h; exact h.1
  have hN : 0 ≤ N ∧ N < prodL (maxesP p) := by simp [atOk] at h; exact h.2
  rw [numB, if_pos (at_start h), at_app h]
  exact numFrom_digs (fun m hm => (wide_of_max hz m hm).1) hN.1 hN.2
end Go.Proofs.Ytflojbjeloilaaa
