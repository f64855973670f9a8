/- The contracts of the model's l2In, l2With and NamesIn. -/
import Derived.Test.YtjfdmdemgnponaaRising
import Derived.Test.YtjfdmdemgnponaaTerm
namespace Go.Proofs.Ytjfdmdemgnponaa
open Go.RowKit

/-- Not among the first k. -/
def NotTo (z : Int) (zs : List Int) (k : Nat) : Prop := ∀ i, i < k → zs.getD i 0 ≠ z
theorem NotTo.succ {z x : Int} {zs : List Int} {k : Nat} (h : NotTo z zs k) (hx : Hid (x = zs.getD k 0)) (hne : x ≠ z) : NotTo z zs (k + 1) := by
  intro i hi
  rcases Nat.lt_or_ge i k with hlt | hge
  · exact h i hlt
  · have : i = k := by omega
    subst this; rw [← hx.out]; exact hne
theorem notTo_all {z : Int} {zs : List Int} (h : NotTo z zs zs.length) : z ∉ zs := by
  intro hz
  obtain ⟨i, hi, rfl⟩ := List.getElem_of_mem hz
  exact h i hi (by rw [List.getD_eq_getElem?_getD, List.getElem?_eq_getElem hi]; rfl)

set_option maxHeartbeats 400000 in
theorem l2In_any (a : Option Addr) (n c : Nat) (zs : List Int) (z : Int) (w : World) (h : Ints w a n zs) :
    Calls Try.prog 58 #[.slice a n c, .int .i64 z] w fun e w' => e = .returned (.bool (decide (z ∈ zs))) ∧ w = w' := by
  have HL := Lib.hid h.1
  have hbd := h.2.1
  go_enter Try.func58, Try.ntmps58
  go_wp2
  go_loop [5] (fun i => ∃ k : Nat, k ≤ n ∧ i = .int .i64 k ∧ NotTo z zs k) (fun i => n - (intOf i).toNat)
  case atStart => exact ⟨0, Nat.zero_le _, rfl, fun i hi => absurd hi (by omega)⟩
  case round =>
    obtain ⟨k, hk, rfl, hg⟩ := hrel
    by_cases hlt : k < n
    · obtain ⟨b, o, x, rfl, hb, hx, hin, hc⟩ := h.at_ hlt
      by_cases he : x = z
      · subst he
        have HM : Hid (decide (x ∈ zs) = true) := by show _ = _; rw [decide_eq_true_eq, hx.out]; exact getD_mem (by rw [HL.out]; exact hlt)
        go_wp2
        go_ret
        exact ⟨ret_bool HM.out.symm, rfl⟩
      · have hne : (x == z) = false := by simpa using he
        have hg2 := hg.succ hx he
        clear he
        go_wp2
        go_round
        case rel => exact ⟨k + 1, by omega, by go_num, hg2⟩
        case measure => simp [intOf]; omega
    · obtain rfl : n = k := by omega
      have HM : Hid (decide (z ∈ zs) = false) := by show _ = _; rw [decide_eq_false_iff_not]; exact notTo_all (by rw [HL.out]; exact hg)
      go_wp2
      go_ret
      exact ⟨ret_bool HM.out.symm, rfl⟩

/-- How far the new list is. -/
def PutSt (z : Int) (l : List Int) (k : Nat) (put : Bool) (out : List Int) : Prop :=
  (put = true ∧ out ++ l.drop k = putI z l) ∨ (put = false ∧ out = l.take k ∧ putI z l = l.take k ++ putI z (l.drop k))
theorem drop_at {l : List Int} {k : Nat} {x : Int} (h : k < l.length) (hx : Hid (x = l.getD k 0)) : l.drop k = x :: l.drop (k + 1) := by
  rw [List.drop_eq_getElem_cons h, hx.out, List.getD_eq_getElem?_getD, List.getElem?_eq_getElem h]; rfl
theorem take_at {l : List Int} {k : Nat} {x : Int} (h : k < l.length) (hx : Hid (x = l.getD k 0)) : l.take (k + 1) = l.take k ++ [x] := by
  rw [List.take_succ_eq_append_getElem h, hx.out, List.getD_eq_getElem?_getD, List.getElem?_eq_getElem h]; rfl
theorem PutSt.start (z : Int) (l : List Int) : PutSt z l 0 false [] := .inr ⟨rfl, by simp, by simp⟩
theorem PutSt.keep {z x : Int} {l out : List Int} {k : Nat} (h : PutSt z l k true out) (hk : k < l.length) (hx : Hid (x = l.getD k 0)) : PutSt z l (k + 1) true (out ++ [x]) := by
  rcases h with ⟨_, h⟩ | ⟨h, _⟩
  · refine .inl ⟨rfl, ?_⟩
    rw [drop_at hk hx] at h
    rw [List.append_assoc]; exact h
  · cases h
theorem PutSt.wait {z x : Int} {l out : List Int} {k : Nat} (h : PutSt z l k false out) (hk : k < l.length) (hx : Hid (x = l.getD k 0)) (hge : ¬ z < x) : PutSt z l (k + 1) false (out ++ [x]) := by
  rcases h with ⟨h, _⟩ | ⟨_, h1, h2⟩
  · cases h
  · refine .inr ⟨rfl, by rw [take_at hk hx, h1], ?_⟩
    rw [h2, drop_at hk hx, take_at hk hx, putI, if_neg hge]
    simp
theorem PutSt.put {z x : Int} {l out : List Int} {k : Nat} (h : PutSt z l k false out) (hk : k < l.length) (hx : Hid (x = l.getD k 0)) (hlt : z < x) : PutSt z l (k + 1) true (out ++ [z, x]) := by
  rcases h with ⟨h, _⟩ | ⟨_, h1, h2⟩
  · cases h
  · refine .inl ⟨rfl, ?_⟩
    rw [h2, drop_at hk hx, putI, if_pos hlt, h1]
    simp
theorem PutSt.done_put {z : Int} {l out : List Int} {k : Nat} (h : PutSt z l k true out) (hk : l.length ≤ k) : out = putI z l := by
  rcases h with ⟨_, h⟩ | ⟨h, _⟩
  · rw [List.drop_of_length_le hk, List.append_nil] at h; exact h
  · cases h
theorem PutSt.done_wait {z : Int} {l out : List Int} {k : Nat} (h : PutSt z l k false out) (hk : l.length ≤ k) : out ++ [z] = putI z l := by
  rcases h with ⟨h, _⟩ | ⟨_, h1, h2⟩
  · cases h
  · rw [h2, h1, List.drop_of_length_le hk]; rfl
theorem PutSt.len {z : Int} {l out : List Int} {k : Nat} {put : Bool} (h : PutSt z l k put out) (hk : k ≤ l.length) : out.length ≤ l.length + 1 := by
  have hp : (putI z l).length = l.length + 1 := by
    clear h hk
    induction l with
    | nil => rfl
    | cons x r ih =>
      simp only [putI]
      split
      · rfl
      · simp [ih]
  rcases h with ⟨_, h⟩ | ⟨_, h, _⟩
  · have := congrArg List.length h
    rw [List.length_append, hp] at this
    omega
  · rw [h, List.length_take]; omega
theorem ints_news {w : World} {b o n : Nat} {zs : List Int} (h : Ints w (some ⟨b, o, none⟩) n zs) : ∀ j u, (zs.map (Value.int .i64))[j]? = some u → w.cell? ((⟨b, o, none⟩ : Addr).add j) = some u := by
  intro j u hj
  have hl := h.1
  have hjl : j < zs.length := by have := (List.getElem?_eq_some_iff.1 hj).1; simpa using this
  obtain ⟨b', o', e, _, hc⟩ := h.2.2.2 (by omega)
  injection e with e
  injection e with e1 e2
  subst e1 e2
  rw [Go.WideShapes.add_plain, hc j (by omega), ← hj]
  simp [List.getD_eq_getElem?_getD, hjl]
theorem own_empty2 (w : World) (B : Nat) (hB : B ≤ w.heap.size) : Own (w.alloc (.cells #[] 2)) B (some ⟨w.heap.size, 0, none⟩) 0 0 [] :=
  ⟨World.ownsRow_lit w #[] 0 hB (by unfold maxLen; omega) rfl, by omega, fun z hz => by simp at hz⟩

set_option maxHeartbeats 1600000 in
theorem l2With_any (g n c : Nat) (l : List Int) (z : Int) (w : World) (h : Ints w (some ⟨g, 0, none⟩) n l) (hg : g < w.heap.size) (hz : In64 z) (hn : n ≤ 3000) :
    Calls Try.prog 43 #[.slice (some ⟨g, 0, none⟩) n c, .int .i64 z] w (MadeInts w (withI l z)) := by
  have HL := Lib.hid h.1
  by_cases hm : z ∈ l
  · have HM := Lib.hid (decide_eq_true hm)
    have HW : Hid (withI l z = l) := by show _ = _; unfold withI; rw [if_pos hm]
    have HN : Hid (∀ (ob : Obj) j u, (l.map (Value.int .i64))[j]? = some u → (w.alloc ob).cell? ((⟨g, 0, none⟩ : Addr).add j) = some u) := fun ob j u hj => by
      have := ints_news h j u hj
      rw [Go.WideShapes.add_plain] at this ⊢
      rw [World.cell?_alloc_lt w ob _ hg]; exact this
    clear hm
    go_enter Try.func43, Try.ntmps43
    go_wp2_with fail
    refine (l2In_any _ _ _ l _ _ h).mono ?_
    rintro e w1 ⟨rfl, rfl⟩
    rw [HM.out]
    go_wp2_with (at_builtin; refine wpList_pushG _ rfl _ _ 34 2 (.int .i64 0) 1 8 rfl Try.underlying34 info_i64' rfl (by omega) w.heap.size _ 0 0 [] rfl (own_empty2 w _ (Nat.le_refl _)).1 ⟨g, 0, none⟩ n c (l.map (Value.int .i64)) rfl (by rw [List.length_map, HL.out]; omega) (HN.out _) (fun u hu => by obtain ⟨y, _, rfl⟩ := List.mem_map.1 hu; rfl) (by unfold maxLen; omega) (by omega) (by simp) ?_)
    intro a1 c1 w1 hown hgr
    have hb1 : Below w.heap.size w w1 := ((Below.refl _ _).alloc (Nat.le_refl _) _).grown hgr.1 (by simp) (fun k hk => by simp [Value.ownBlock] at hk; omega)
    have hown' : Own w1 w.heap.size a1 n c1 l := ⟨by simpa using hown, by omega, h.2.2.1⟩
    clear hown
    clear hgr
    go_wp2
    go_ret
    exact ⟨a1, n, c1, rfl, by rw [HW.out]; exact hown', hb1⟩
  · have HM := Lib.hid (decide_eq_false hm)
    have HW : Hid (withI l z = putI z l) := by show _ = _; unfold withI; rw [if_neg hm]
    clear hm
    go_enter Try.func43, Try.ntmps43
    go_wp2_with fail
    refine (l2In_any _ _ _ l _ _ h).mono ?_
    rintro e w1 ⟨rfl, rfl⟩
    rw [HM.out]
    go_wp2
    go_loopw [5, 6, 7] (fun ov pv i wr => ∃ (k : Nat) (put : Bool) (a1 : Option Addr) (n1 c1 : Nat) (out : List Int), k ≤ n ∧ i = .int .i64 k ∧ pv = .bool put ∧ ov = .slice a1 n1 c1 ∧ PutSt z l k put out ∧ Own wr w.heap.size a1 n1 c1 out ∧ Below w.heap.size w wr) (fun _ _ i _ => n - (intOf i).toNat)
    case atStart => exact ⟨0, false, _, _, _, [], Nat.zero_le _, rfl, rfl, rfl, PutSt.start _ _, own_empty2 w _ (Nat.le_refl _), (Below.refl _ _).alloc (Nat.le_refl _) _⟩
    case round =>
      obtain ⟨k, put, a1, n1, c1, out, hk, rfl, rfl, rfl, hst, hown, hbel⟩ := hrel
      have hbs : w.heap.size ≤ wr.heap.size := hbel.size
      have hn1 : n1 ≤ 3001 := by have := hst.len (by rw [HL.out]; exact hk); have := hown.len; have := HL.out; omega
      by_cases hlt : k < n
      · obtain ⟨b, o, x, e0, hb, hx, hin, hc⟩ := (h.below hbel).at_ hlt
        injection e0 with e0
        injection e0 with e1 e2
        subst e1 e2
        rw [Nat.zero_add] at hc
        cases put with
        | true =>
          have hst2 := hst.keep (by rw [HL.out]; exact hlt) hx
          go_wp2_with (at_builtin; refine wpList_pushI _ rfl _ _ rfl w.heap.size _ _ _ out rfl (hown.alloc2 _) wr.heap.size x rfl (by simp) hin (by omega) (by simp; omega) ?_)
          intro a2 c2 w2 hown2 hgr2
          have hb2 : Below w.heap.size w w2 := (hbel.alloc hbs _).grown hgr2.1 (by simp; omega) (fun g hg => (hown.block g hg).1)
          clear hown hgr2 hbel
          go_wp2
          go_roundw
          case rel => exact ⟨k + 1, true, a2, n1 + 1, c2, _, by omega, by go_num, rfl, rfl, hst2, hown2, hb2⟩
          case measure => simp [intOf]; omega
        | false =>
          by_cases hzx : z < x
          · have hst2 := hst.put (by rw [HL.out]; exact hlt) hx hzx
            go_wp2_with (at_builtin; refine wpList_pushI _ rfl _ _ rfl w.heap.size _ _ _ out rfl (hown.alloc2 _) wr.heap.size z rfl (by simp) hz (by omega) (by simp; omega) ?_)
            intro a2 c2 w2 hown2 hgr2
            have hb2 : Below w.heap.size w w2 := (hbel.alloc hbs _).grown hgr2.1 (by simp; omega) (fun g hg => (hown.block g hg).1)
            have hbs2 : w.heap.size ≤ w2.heap.size := hb2.size
            have hc2 : w2.cell? ⟨g, k, none⟩ = some (.int .i64 x) := (hb2.cell hg).trans (((hbel.cell hg).symm).trans hc)
            clear hown hgr2 hbel hc
            go_wp2_with (at_builtin; refine wpList_pushI _ rfl _ _ rfl w.heap.size _ _ _ (out ++ [z]) rfl (hown2.alloc2 _) w2.heap.size x rfl (by simp) hin (by omega) (by simp; omega) ?_)
            intro a3 c3 w3 hown3 hgr3
            have hb3 : Below w.heap.size w w3 := (hb2.alloc hbs2 _).grown hgr3.1 (by simp; omega) (fun g hg => (hown2.block g hg).1)
            clear hown2 hgr3 hb2
            go_wp2
            go_roundw
            case rel => exact ⟨k + 1, true, a3, n1 + 1 + 1, c3, _, by omega, by go_num, rfl, rfl, hst2, hown3, hb3⟩
            case measure => simp [intOf]; omega
          · have hst2 := hst.wait (by rw [HL.out]; exact hlt) hx hzx
            go_wp2_with (at_builtin; refine wpList_pushI _ rfl _ _ rfl w.heap.size _ _ _ out rfl (hown.alloc2 _) wr.heap.size x rfl (by simp) hin (by omega) (by simp; omega) ?_)
            intro a2 c2 w2 hown2 hgr2
            have hb2 : Below w.heap.size w w2 := (hbel.alloc hbs _).grown hgr2.1 (by simp; omega) (fun g hg => (hown.block g hg).1)
            clear hown hgr2 hbel
            go_wp2
            go_roundw
            case rel => exact ⟨k + 1, false, a2, n1 + 1, c2, _, by omega, by go_num, rfl, rfl, hst2, hown2, hb2⟩
            case measure => simp [intOf]; omega
      · obtain rfl : n = k := by omega
        cases put with
        | true =>
          have hd := hst.done_put (by rw [HL.out]; exact Nat.le_refl _)
          subst hd
          go_wp2
          go_ret
          exact ⟨a1, n1, c1, rfl, by rw [HW.out]; exact hown, hbel⟩
        | false =>
          have HD := Lib.hid (hst.done_wait (by rw [HL.out]; exact Nat.le_refl _))
          go_wp2_with (at_builtin; refine wpList_pushI _ rfl _ _ rfl w.heap.size _ _ _ out rfl (hown.alloc2 _) wr.heap.size z rfl (by simp) hz (by omega) (by simp; omega) ?_)
          intro a2 c2 w2 hown2 hgr2
          have hb2 : Below w.heap.size w w2 := (hbel.alloc hbs _).grown hgr2.1 (by simp; omega) (fun g hg => (hown.block g hg).1)
          rw [HD.out] at hown2
          clear hown hgr2 hbel
          go_wp2
          go_ret
          exact ⟨a2, _, c2, rfl, by rw [HW.out]; exact hown2, hb2⟩

theorem withI_pos (l : List Int) (z : Int) : 0 < (withI l z).length := by
  unfold withI
  by_cases h : z ∈ l
  · rw [if_pos h]; exact List.length_pos_of_mem h
  · rw [if_neg h]
    cases l with
    | nil => simp [putI]
    | cons x r => simp only [putI]; split <;> simp
theorem own_some {w : World} {B : Nat} {a : Option Addr} {n c : Nat} {zs : List Int} (h : Own w B a n c zs) (hp : 0 < zs.length) : ∃ g, a = some ⟨g, 0, none⟩ ∧ B ≤ g ∧ g < w.heap.size := by
  have hl := h.len
  rcases h.1.2 with ⟨_, h0⟩ | ⟨g, cap, cur, e, hb, hg, _⟩
  · omega
  · exact ⟨g, by injection e, hb, (Array.getElem?_eq_some_iff.1 hg).1⟩

/-- The names of one Op among the first k, rising. -/
def NamesTo (op : Int) (ts : List Tm) (k : Nat) (l : List Int) : Prop := Rise l ∧ (∀ x, x ∈ l ↔ (op, x) ∈ ts.take k) ∧ l.length ≤ k
theorem NamesTo.zero (op : Int) (ts : List Tm) : NamesTo op ts 0 [] := ⟨by simp [Rise], fun x => by simp, by simp⟩
theorem NamesTo.other {op : Int} {ts : List Tm} {k : Nat} {l : List Int} {t : Tm} (h : NamesTo op ts k l) (hk : k < ts.length) (ht : Hid (tmAt ts k = t)) (hne : t.1 ≠ op) : NamesTo op ts (k + 1) l := by
  refine ⟨h.1, fun x => ?_, by have := h.2.2; omega⟩
  rw [h.2.1, tm_snoc ts k hk, ht.out, List.mem_append, List.mem_singleton]
  constructor
  · exact .inl
  · rintro (h' | h')
    · exact h'
    · exact absurd (by rw [← h']) hne
theorem withI_len (l : List Int) (z : Int) : (withI l z).length ≤ l.length + 1 := by
  unfold withI
  by_cases h : z ∈ l
  · rw [if_pos h]; omega
  · rw [if_neg h]
    have := (PutSt.start z l)
    have hp : ∀ l : List Int, (putI z l).length = l.length + 1 := by
      intro l
      induction l with
      | nil => rfl
      | cons x r ih =>
        simp only [putI]
        split
        · rfl
        · simp [ih]
    rw [hp]; omega
theorem NamesTo.same {op z : Int} {ts : List Tm} {k : Nat} {l : List Int} (h : NamesTo op ts k l) (hk : k < ts.length) (ht : Hid (tmAt ts k = (op, z))) : NamesTo op ts (k + 1) (withI l z) := by
  have hw := withI_is z h.1
  refine ⟨hw.1, fun x => ?_, by have := withI_len l z; have := h.2.2; omega⟩
  rw [hw.2, h.2.1, tm_snoc ts k hk, ht.out, List.mem_append, List.mem_singleton]
  constructor
  · rintro (h' | h')
    · exact .inr (by rw [h'])
    · exact .inl h'
  · rintro (h' | h')
    · exact .inr h'
    · injection h' with _ h'; exact .inl h'
theorem NamesTo.done {op : Int} {ts : List Tm} {n : Nat} {l : List Int} (h : NamesTo op ts n l) (hn : ts.length ≤ n) (hok : expB ts = true) : l = namesB op ts := by
  unfold namesB
  rw [if_pos hok]
  refine riseL_eq h.1 (fun x => ?_)
  rw [h.2.1, List.take_of_length_le hn, mem_namesOf]
theorem Own2.fresh_left {w w' : World} {B : Nat} {r r' s : Sl} {zs zs' ys : List Int} (h : Own2 w B r s zs ys) (hb : Below w.heap.size w w') (ho : Own w' w.heap.size r'.1 r'.2.1 r'.2.2 zs') (hB : B ≤ w.heap.size) : Own2 w' B r' s zs' ys :=
  ⟨ho.base hB, h.2.1.below hb, fun g hg e => by have := (ho.block g hg).1; have := (h.2.1.block g e).2; omega⟩
theorem Own2.fresh_right {w w' : World} {B : Nat} {r s s' : Sl} {zs ys ys' : List Int} (h : Own2 w B r s zs ys) (hb : Below w.heap.size w w') (ho : Own w' w.heap.size s'.1 s'.2.1 s'.2.2 ys') (hB : B ≤ w.heap.size) : Own2 w' B r s' zs ys' :=
  ⟨h.1.below hb, ho.base hB, fun g hg e => by have := (ho.block g e).1; have := (h.1.block g hg).2; omega⟩
theorem own2_empty (w : World) : Own2 ((w.alloc (.cells #[] 2)).alloc (.cells #[] 2)) w.heap.size (some ⟨w.heap.size, 0, none⟩, 0, 0) (some ⟨w.heap.size + 1, 0, none⟩, 0, 0) [] [] := by
  refine ⟨(own_empty2 w _ (Nat.le_refl _)).alloc2 _, ?_, fun g hg e => ?_⟩
  · have := own_empty2 (w.alloc (.cells #[] 2)) w.heap.size (by simp)
    simpa using this
  · simp [slV, Value.ownBlock] at hg e
    omega

set_option maxRecDepth 100000 in
set_option maxHeartbeats 1600000 in
theorem specNamesIn_any (a : Option Addr) (n c : Nat) (ts : List Tm) (w : World) (h : Terms w a n ts) :
    Calls Try.prog 20 #[.slice a n c] w (MadeN w ts) := by
  have HL := Lib.hid h.1
  have hem := own2_empty w
  have hbA : Below w.heap.size w ((w.alloc (.cells #[] 2)).alloc (.cells #[] 2)) := ((Below.refl _ _).alloc (Nat.le_refl _) _).alloc (by simp) _
  cases hok : expB ts with
  | false =>
    have HN1 : Hid (namesB 1 ts = []) := by show _ = _; unfold namesB; rw [hok]; rfl
    have HN2 : Hid (namesB 2 ts = []) := by show _ = _; unfold namesB; rw [hok]; rfl
    have HK := Lib.hid hok
    clear hok
    go_enter Try.func20, Try.ntmps20
    go_wp2_with fail
    refine (specExpOk_any _ _ _ ts _ (h.below (Nat.le_refl _) hbA)).mono ?_
    rintro e w1 ⟨rfl, hb1⟩
    rw [HK.out]
    go_wp2_with fail
    go_ret2
    exact ⟨_, _, rfl, by rw [HN1.out, HN2.out]; exact hem.below hb1, hbA.trans (hb1.mono hbA.size)⟩
  | true =>
    have HK := Lib.hid hok
    have hn : n ≤ 3000 := by have := ((expB_iff ts).1 hok).1; have := HL.out; omega
    clear hok
    go_enter Try.func20, Try.ntmps20
    go_wp2_with fail
    refine (specExpOk_any _ _ _ ts _ (h.below (Nat.le_refl _) hbA)).mono ?_
    rintro e w1 ⟨rfl, hb1⟩
    rw [HK.out]
    have hem1 := hem.below hb1
    have ht1 := hbA.trans (hb1.mono hbA.size)
    clear hem hb1 hbA
    go_wp2
    go_loopw [4, 5, 6] (fun vv av i wr => ∃ (k g1 n1 c1 g2 n2 c2 : Nat) (zs ys : List Int), k ≤ n ∧ i = .int .i64 k ∧ vv = .slice (some ⟨g1, 0, none⟩) n1 c1 ∧ av = .slice (some ⟨g2, 0, none⟩) n2 c2 ∧ Own2 wr w.heap.size (some ⟨g1, 0, none⟩, n1, c1) (some ⟨g2, 0, none⟩, n2, c2) zs ys ∧ NamesTo 1 ts k zs ∧ NamesTo 2 ts k ys ∧ Below w.heap.size w wr) (fun _ _ i _ => n - (intOf i).toNat)
    case atStart => exact ⟨0, _, _, _, _, _, _, [], [], Nat.zero_le _, rfl, rfl, rfl, hem1, NamesTo.zero _ _, NamesTo.zero _ _, ht1⟩
    case round =>
      clear hem1 ht1
      obtain ⟨k, g1, n1, c1, g2, n2, c2, zs, ys, hk, rfl, rfl, rfl, ho, hz1, hy1, hbel⟩ := hrel
      have hbs : w.heap.size ≤ wr.heap.size := hbel.size
      by_cases hlt : k < n
      · obtain ⟨b, o, x, y, rfl, hb, hz, hin1, hin2, hc1, hc2⟩ := (h.below (Nat.le_refl _) hbel).at_ hlt
        have hkt : k < ts.length := by rw [HL.out]; exact hlt
        have hg1 : g1 < wr.heap.size := (ho.1.block g1 rfl).2
        have hg2 : g2 < wr.heap.size := (ho.2.1.block g2 rfl).2
        have hn1 : n1 ≤ 3000 := by have := ho.1.len; simp only [] at this; have := hz1.2.2; omega
        have hn2 : n2 ≤ 3000 := by have := ho.2.1.len; simp only [] at this; have := hy1.2.2; omega
        by_cases hx1 : x = 1
        · subst hx1
          have hz2 := hz1.same hkt hz
          have hy2 := hy1.other hkt hz (by simp)
          have hpos := withI_pos zs y
          go_wp2_with fail
          refine (l2With_any g1 n1 c1 zs y _ ho.1.ints hg1 hin2 hn1).mono ?_
          rintro e w2 ⟨a2, m2, d2, rfl, ho2, hb2⟩
          obtain ⟨g3, rfl, _, _⟩ := own_some ho2 hpos
          have ho3 := ho.fresh_left (r' := (some ⟨g3, 0, none⟩, m2, d2)) hb2 ho2 hbs
          have ht2 := hbel.trans (hb2.mono hbs)
          clear ho ho2 hb2 hbel hc1 hc2
          go_wp2
          go_roundw
          case rel => exact ⟨k + 1, g3, m2, d2, g2, n2, c2, _, _, by omega, by go_num, rfl, rfl, ho3, hz2, hy2, ht2⟩
          case measure => simp [intOf]; omega
        by_cases hx2 : x = 2
        · subst hx2
          have hz2 := hz1.other hkt hz (by simp)
          have hy2 := hy1.same hkt hz
          have hpos := withI_pos ys y
          go_wp2_with fail
          refine (l2With_any g2 n2 c2 ys y _ ho.2.1.ints hg2 hin2 hn2).mono ?_
          rintro e w2 ⟨a2, m2, d2, rfl, ho2, hb2⟩
          obtain ⟨g3, rfl, _, _⟩ := own_some ho2 hpos
          have ho3 := ho.fresh_right (s' := (some ⟨g3, 0, none⟩, m2, d2)) hb2 ho2 hbs
          have ht2 := hbel.trans (hb2.mono hbs)
          clear ho ho2 hb2 hbel hc1 hc2
          go_wp2
          go_roundw
          case rel => exact ⟨k + 1, g1, n1, c1, g3, m2, d2, _, _, by omega, by go_num, rfl, rfl, ho3, hz2, hy2, ht2⟩
          case measure => simp [intOf]; omega
        · have hz2 := hz1.other hkt hz (by simpa using hx1)
          have hy2 := hy1.other hkt hz (by simpa using hx2)
          have e1 : (x == 1) = false := by simpa using hx1
          have e2 : (x == 2) = false := by simpa using hx2
          go_wp2
          go_roundw
          case rel => exact ⟨k + 1, g1, n1, c1, g2, n2, c2, _, _, by omega, by go_num, rfl, rfl, ho, hz2, hy2, hbel⟩
          case measure => simp [intOf]; omega
      · obtain rfl : n = k := by omega
        have e1 := hz1.done (by rw [HL.out]; exact Nat.le_refl _) HK.out
        have e2 := hy1.done (by rw [HL.out]; exact Nat.le_refl _) HK.out
        rw [e1, e2] at ho
        clear hz1 hy1 e1 e2
        go_wp2
        go_ret2
        exact ⟨_, _, rfl, ho, hbel⟩
end Go.Proofs.Ytjfdmdemgnponaa
