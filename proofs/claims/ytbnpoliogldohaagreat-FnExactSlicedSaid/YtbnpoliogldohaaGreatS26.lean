/- Joined texts of this proof (SetWord, ImplStays, AppNames), in build order. -/
import Derived.Test.YtbnpoliogldohaaGreatS23
import Derived.Test.YtbnpoliogldohaaGreatS25
import Derived.Maps.RangeWalk
import Derived.Test.YtbnpoliogldohaaGreatS22
import Derived.Test.YtbnpoliogldohaaGreatS15
import Derived.Test.YtbnpoliogldohaaGreatS21
/- Sets: maps to true that a call makes: a look-up, one member more, one less, how many; a range over one, in whatever order. -/
namespace Go.Proofs.YtbnpoliogldohaaGreat
open Go.RowKit
open Go.ChangeMaps (setBlock heap_setBlock_same heap_setBlock_other)

/-- How keys are told apart, and stay as they are. -/
structure KeyLawS {κ : Type} [DecidableEq κ] (kt : TypeId) (kv : κ → Value) : Prop where
  law : KeyLaw' kt kv
  bits : ∀ x, Instr.sameBits 10000 (kv x) (kv x) = true
  inj : ∀ a b, kv a = kv b → a = b
section
variable {κ : Type} {kt : TypeId} {kv : κ → Value}
def entB (kv : κ → Value) (p : κ × Nat) : MapEntry := { key := kv p.1, val := .bool true, born := p.2 }
/-- Members with stamps. -/
structure Stamps (ps : List (κ × Nat)) (clock : Nat) : Prop where
  keys : (ps.map Prod.fst).Nodup
  stamps : (ps.map Prod.snd).Nodup
  old : ∀ p ∈ ps, p.2 < clock
/-- Block b is a set of these. -/
def KSet (kv : κ → Value) (w : World) (b : Nat) (ks : List κ) : Prop := ∃ (ps : List (κ × Nat)) (clock : Nat), w.heap[b]? = some (.map (ps.map (entB kv)).toArray clock) ∧ ps.map Prod.fst = ks ∧ Stamps ps clock
variable {w : World} {b : Nat} {ks : List κ}
theorem KSet.lt (h : KSet kv w b ks) : b < w.heap.size := by
  obtain ⟨ps, c, hb, _⟩ := h
  exact (Array.getElem?_eq_some_iff.1 hb).1
theorem KSet.at {w' : World} (h : KSet kv w b ks) (e : w'.heap[b]? = w.heap[b]?) : KSet kv w' b ks := by
  obtain ⟨ps, c, hb, r⟩ := h
  exact ⟨ps, c, e.trans hb, r⟩
theorem KSet.kept {w' : World} {row : Option Nat} (h : KSet kv w b ks) (hg : w.grownBy w' row) (hne : row ≠ some b) : KSet kv w' b ks := h.at (hg.block b h.lt (fun e => hne e.symm))
theorem KSet.below {w' : World} {B : Nat} (h : KSet kv w b ks) (hb : Below B w w') (hlt : b < B) : KSet kv w' b ks := h.at (hb.block b hlt)
theorem kset_made (w : World) : KSet kv (w.alloc (.map #[] 0)) w.heap.size ([] : List κ) := ⟨[], 0, World.alloc_heap_new w _, rfl, ⟨List.nodup_nil, List.nodup_nil, fun _ h => by cases h⟩⟩
theorem ents_keys (ps : List (κ × Nat)) : ((ps.map (entB kv)).toArray.toList.map (fun e => e.key)) = (ps.map Prod.fst).map kv := by
  simp [entB, List.map_map, Function.comp_def]
/-- 's[x]'. -/
theorem KSet.look [DecidableEq κ] {t e : TypeId} (h : KSet kv w b ks) (K : KeyLawS kt kv) (ht : Tryz.prog.underlying t = some (.map kt e)) (hz : (zeroValue e).run Tryz.prog w = .ok (.bool false) w) (x : κ) [Decidable (x ∈ ks)] :
    (Instr.lookup t (.map (some b)) (kv x) false).run Tryz.prog w = .ok (.bool (decide (x ∈ ks))) w := by
  obtain ⟨ps, c, hb, rfl, hs⟩ := h
  have hm : MapW w b ((ps.map Prod.fst).map kv) (ps.map fun _ => .bool true) := ⟨_, c, hb, ents_keys ps, by simp [entB, List.map_map, Function.comp_def]⟩
  obtain ⟨v, hr, hv⟩ := hm.lookup K.law ht (.bool false) hz x
  rw [hr]
  rcases hv with ⟨hn, rfl⟩ | ⟨j, h1, h2⟩
  · rw [decide_eq_false hn]
  · rw [decide_eq_true (List.mem_of_getElem? h1)]
    rw [List.getElem?_map] at h2
    cases hp : ps[j]? with
    | none => rw [hp] at h2; cases h2
    | some p => rw [hp] at h2; simp at h2; rw [← h2]
/-- With one more. -/
def addK [DecidableEq κ] (ks : List κ) (x : κ) : List κ := if x ∈ ks then ks else ks ++ [x]
theorem mem_addK [DecidableEq κ] {ks : List κ} {x y : κ} : y ∈ addK ks x ↔ y ∈ ks ∨ y = x := by
  unfold addK
  split
  · next h => exact ⟨.inl, fun h' => h'.elim id (fun e => e ▸ h)⟩
  · simp
/-- 's[x] = true'. -/
theorem KSet.put [DecidableEq κ] {t e : TypeId} (h : KSet kv w b ks) (K : KeyLawS kt kv) (ht : Tryz.prog.underlying t = some (.map kt e)) (x : κ) :
    ∃ w', (Instr.mapUpdate t (.map (some b)) (kv x) (.bool true)).run Tryz.prog w = .ok () w' ∧ KSet kv w' b (addK ks x) ∧ w.grownBy w' (some b) ∧ w'.heap.size = w.heap.size := by
  obtain ⟨ps, c, hb, rfl, hs⟩ := h
  obtain ⟨r, hr, hf⟩ := K.law.find x w (ps.map (entB kv)).toArray.toList (ps.map Prod.fst) (ents_keys ps)
  have hgr : ∀ o : Obj, w.grownBy (setBlock w b o) (some b) := fun o => ⟨rfl, rfl, rfl, by simp [setBlock], fun i _ hi => heap_setBlock_other hb _ (fun e => hi (by rw [e]))⟩
  have hsz : ∀ o : Obj, (setBlock w b o).heap.size = w.heap.size := fun o => by simp [setBlock]
  rcases hf with ⟨rfl, hn⟩ | ⟨j, e', rfl, a1, a2⟩
  · refine ⟨setBlock w b (.map ((ps ++ [(x, c)]).map (entB kv)).toArray (c + 1)), ?_, ⟨ps ++ [(x, c)], c + 1, heap_setBlock_same hb _, by rw [addK, if_neg hn]; simp, ?_⟩, hgr _, hsz _⟩
    · simp [Instr.mapUpdate, run_underlying ht, MapKept.run_getObj_map hb, K.law.check, hr, Result.andThen]
      rw [MapKept.run_setObj_map _ hb]
      simp [entB, setBlock]
    · refine ⟨?_, ?_, ?_⟩
      · rw [List.map_append]
        exact List.nodup_append.2 ⟨hs.keys, by simp, fun a ha b hb => by
          simp at hb; subst hb; rintro rfl; exact hn ha⟩
      · rw [List.map_append]
        exact List.nodup_append.2 ⟨hs.stamps, by simp, fun a ha b hb => by
          simp at hb; subst hb
          obtain ⟨p, hp, rfl⟩ := List.mem_map.1 ha
          exact Nat.ne_of_lt (hs.old p hp)⟩
      · intro p hp
        rcases List.mem_append.1 hp with hp | hp
        · exact Nat.lt_succ_of_lt (hs.old p hp)
        · simp at hp; subst hp; exact Nat.lt_succ_self _
  · have hx : x ∈ ps.map Prod.fst := List.mem_of_getElem? a2
    have hpj : ∃ p, ps[j]? = some p ∧ p.1 = x := by
      rw [List.getElem?_map] at a2
      cases hp : ps[j]? with
      | none => rw [hp] at a2; cases a2
      | some p => rw [hp] at a2; simp at a2; exact ⟨p, rfl, a2⟩
    obtain ⟨p, hpj, hpx⟩ := hpj
    have he : (ps.map (entB kv)).toArray[j]? = some (entB kv p) := by simp [hpj]
    have hmod : ((ps.map (entB kv)).toArray.modify j fun e => { e with key := kv x, val := .bool true }) = (ps.map (entB kv)).toArray := by
      apply Array.ext_getElem?
      intro i
      rw [Array.getElem?_modify]
      by_cases hij : j = i
      · subst hij
        rw [if_pos rfl, he]
        simp [entB, hpx]
      · rw [if_neg hij]
    refine ⟨setBlock w b (.map (ps.map (entB kv)).toArray c), ?_, ⟨ps, c, heap_setBlock_same hb _, by rw [addK, if_pos hx], hs⟩, hgr _, hsz _⟩
    have hk : (Instr.keyThatStays (kv x) (kv x)).run Tryz.prog w = .ok (kv x) w := by
      simp [Instr.keyThatStays, K.bits]
    simp only [Instr.mapUpdate, Sem.run_bind, run_underlying ht, MapKept.run_getObj_map hb, K.law.check, hr, Result.andThen_ok, he, Option.map_some, Option.getD_some]
    rw [show (entB kv p).key = kv x from by rw [← hpx]; rfl, hk]
    simp only [Result.andThen_ok]
    rw [hmod]
    exact MapKept.run_setObj_map _ hb
/-- 'len(s)'. -/
theorem KSet.len {t e : TypeId} (h : KSet kv w b ks) (ht : Tryz.prog.underlying t = some (.map kt e)) (ty : TypeId) :
    (Builtin.len_ #[t] ty #[.map (some b)]).run Tryz.prog w = .ok (.int .i64 (ks.length : Int)) w := by
  obtain ⟨ps, c, hb, rfl, hs⟩ := h
  simp [Builtin.len_, run_underlying ht, MapKept.run_getObj_map hb, Result.andThen, goInt]
theorem map_erase {α β : Type} (g : α → β) : ∀ (l : List α) (j : Nat), (l.map g).eraseIdx j = (l.eraseIdx j).map g
  | [], _ => rfl
  | _ :: _, 0 => rfl
  | a :: l, j + 1 => by simp [map_erase g l j]
theorem erase_filter [DecidableEq κ] : ∀ (l : List κ) (j : Nat) (x : κ), l.Nodup → l[j]? = some x → l.eraseIdx j = l.filter (fun y => decide (y ≠ x))
  | [], j, x, _, h => by simp at h
  | y :: l, 0, x, hn, h => by
    have hn' := List.nodup_cons.1 hn
    simp at h
    subst h
    simp only [List.eraseIdx_zero, List.tail_cons, List.filter_cons]
    rw [if_neg (by simp)]
    exact (List.filter_eq_self.2 (fun z hz => by simp; rintro rfl; exact hn'.1 hz)).symm
  | y :: l, j + 1, x, hn, h => by
    have hn' := List.nodup_cons.1 hn
    simp only [List.getElem?_cons_succ] at h
    have hxy : y ≠ x := fun e => hn'.1 (e ▸ List.mem_of_getElem? h)
    simp only [List.eraseIdx_cons_succ, List.filter_cons]
    rw [if_pos (by simpa using hxy), erase_filter l j x hn'.2 h]
/-- 'delete(s, x)'. -/
theorem KSet.drop [DecidableEq κ] {t e : TypeId} (h : KSet kv w b ks) (K : KeyLawS kt kv) (ht : Tryz.prog.underlying t = some (.map kt e)) (x : κ) (ty : TypeId) :
    ∃ w', (Builtin.delete_ #[t, kt] ty #[.map (some b), kv x]).run Tryz.prog w = .ok (.tuple #[]) w' ∧ KSet kv w' b (ks.filter (fun y => decide (y ≠ x))) ∧ w.grownBy w' (some b) ∧ w'.heap.size = w.heap.size := by
  obtain ⟨ps, c, hb, rfl, hs⟩ := h
  obtain ⟨r, hr, hf⟩ := K.law.find x w (ps.map (entB kv)).toArray.toList (ps.map Prod.fst) (ents_keys ps)
  have hgr : ∀ o : Obj, w.grownBy (setBlock w b o) (some b) := fun o => ⟨rfl, rfl, rfl, by simp [setBlock], fun i _ hi => heap_setBlock_other hb _ (fun e => hi (by rw [e]))⟩
  have hsz : ∀ o : Obj, (setBlock w b o).heap.size = w.heap.size := fun o => by simp [setBlock]
  rcases hf with ⟨rfl, hn⟩ | ⟨j, e', rfl, a1, a2⟩
  · refine ⟨setBlock w b (.map (ps.map (entB kv)).toArray c), ?_, ⟨ps, c, heap_setBlock_same hb _, ?_, hs⟩, hgr _, hsz _⟩
    · simp [Builtin.delete_, run_underlying ht, MapKept.run_getObj_map hb, K.law.check, hr, Result.andThen, MapKept.run_setObj_map _ hb, setBlock]
    · exact (List.filter_eq_self.2 (fun y hy => by simp; rintro rfl; exact hn hy)).symm
  · have hjl : j < ps.length := by have := (List.getElem?_eq_some_iff.1 a2).1; simpa using this
    have hjx : (ps.map Prod.fst)[j]? = some x := a2
    have herase : (ps.map (entB kv)).toArray.eraseIdxIfInBounds j = ((ps.eraseIdx j).map (entB kv)).toArray := by
      apply Array.toList_inj.1
      rw [Array.eraseIdxIfInBounds]
      simp [hjl, map_erase]
    have hfl : (ps.eraseIdx j).map Prod.fst = (ps.map Prod.fst).filter (fun y => decide (y ≠ x)) := by
      rw [← map_erase]
      exact erase_filter _ j x hs.keys hjx
    refine ⟨setBlock w b (.map ((ps.eraseIdx j).map (entB kv)).toArray c), ?_, ⟨ps.eraseIdx j, c, heap_setBlock_same hb _, hfl, ?_⟩, hgr _, hsz _⟩
    · simp [Builtin.delete_, run_underlying ht, MapKept.run_getObj_map hb, K.law.check, hr, Result.andThen, MapKept.run_setObj_map _ hb, setBlock, map_erase]
    · have hsub := List.eraseIdx_sublist ps j
      exact ⟨hs.keys.sublist (hsub.map _), hs.stamps.sublist (hsub.map _), fun p hp => hs.old p (hsub.subset hp)⟩
/-- Block r ranges over the set in block b; these are still to come. -/
def KIter (kv : κ → Value) (w : World) (r b : Nat) (ks left : List κ) : Prop := ∃ (ps : List (κ × Nat)) (clock since : Nat) (seen : Array Nat) (c0 : Nat), w.heap[b]? = some (.map (ps.map (entB kv)).toArray clock) ∧ ps.map Prod.fst = ks ∧ Stamps ps clock ∧
  w.heap[r]? = some (.mapIter (some b) since seen c0) ∧ (∀ p ∈ ps, p.2 < since) ∧ since ≤ c0 ∧ since ≤ clock ∧ left = (ps.filter (fun p => !seen.contains p.2)).map Prod.fst
theorem KIter.set {r : Nat} {left : List κ} (h : KIter kv w r b ks left) : KSet kv w b ks := by
  obtain ⟨ps, c, _, _, _, h1, h2, h3, _⟩ := h
  exact ⟨ps, c, h1, h2, h3⟩
theorem KIter.lt {r : Nat} {left : List κ} (h : KIter kv w r b ks left) : r < w.heap.size := by
  obtain ⟨_, _, _, _, _, _, _, _, h, _⟩ := h
  exact (Array.getElem?_eq_some_iff.1 h).1
theorem KIter.sub {r : Nat} {left : List κ} (h : KIter kv w r b ks left) : ∀ x ∈ left, x ∈ ks := by
  obtain ⟨ps, c, _, _, _, _, rfl, _, _, _, _, _, rfl⟩ := h
  intro x hx
  obtain ⟨p, hp, rfl⟩ := List.mem_map.1 hx
  exact List.mem_map.2 ⟨p, (List.mem_filter.1 hp).1, rfl⟩
theorem KIter.at {w' : World} {r : Nat} {left : List κ} (h : KIter kv w r b ks left) (e : w'.heap[b]? = w.heap[b]?) (e' : w'.heap[r]? = w.heap[r]?) : KIter kv w' r b ks left := by
  obtain ⟨ps, c, s, se, c0, h1, h2, h3, h4, t⟩ := h
  exact ⟨ps, c, s, se, c0, e.trans h1, h2, h3, e'.trans h4, t⟩
theorem KIter.kept {w' : World} {r : Nat} {left : List κ} {row : Option Nat} (h : KIter kv w r b ks left) (hg : w.grownBy w' row) (hne : row ≠ some b) (hne' : row ≠ some r) : KIter kv w' r b ks left := h.at (hg.block b h.set.lt (fun e => hne e.symm)) (hg.block r h.lt (fun e => hne' e.symm))
/-- 'range s'. -/
theorem KSet.range {t e : TypeId} (h : KSet kv w b ks) (ht : Tryz.prog.underlying t = some (.map kt e)) :
    ∃ w', (Instr.range t (.map (some b))).run Tryz.prog w = .ok (.pointer (some ⟨w.heap.size, 0, none⟩)) w' ∧ KIter kv w' w.heap.size b ks ks ∧ Below w.heap.size w w' ∧ w'.heap.size = w.heap.size + 1 := by
  have hlt := h.lt
  obtain ⟨ps, c, hb, hk, hs⟩ := h
  refine ⟨_, run_range_map w t kt e b _ c ht hb, ⟨ps, c, c, #[], c, ?_, hk, hs, World.alloc_heap_new w _, hs.old, Nat.le_refl _, Nat.le_refl _, ?_⟩, (Below.refl _ _).alloc (Nat.le_refl _) _, by simp⟩
  · rw [heap_alloc_old w _ hlt, hb]
  · rw [← hk, List.filter_eq_self.2 (fun p _ => by simp)]
theorem setB_same {w : World} {b : Nat} {o : Obj} (h : w.heap[b]? = some o) (o' : Obj) : (setBlock w b o').heap[b]? = some o' := by
  have hb := (Array.getElem?_eq_some_iff.1 h).1
  show (w.heap.setIfInBounds b o')[b]? = _
  simp [hb]
theorem setB_other {w : World} {b i : Nat} {o' : Obj} (h : i ≠ b) : (setBlock w b o').heap[i]? = w.heap[i]? := by
  show (w.heap.setIfInBounds b o')[i]? = _
  rw [Array.getElem?_setIfInBounds_ne (fun e => h e.symm)]
theorem left_ents (ps : List (κ × Nat)) (seen : Array Nat) : (leftOf (ps.map (entB kv)).toArray seen).toList = (ps.filter (fun p => !seen.contains p.2)).map (entB kv) := by
  unfold leftOf
  rw [Array.toList_filter]
  show (ps.map (entB kv)).filter _ = _
  rw [List.filter_map]
  rfl
theorem stamp_one : ∀ {ps : List (κ × Nat)} {p q : κ × Nat}, (ps.map Prod.snd).Nodup → p ∈ ps → q ∈ ps → p.2 = q.2 → p = q
  | [], _, _, _, hp, _, _ => by cases hp
  | a :: l, p, q, hn, hp, hq, e => by
    have hn' := List.nodup_cons.1 hn
    rcases List.mem_cons.1 hp with rfl | hp'
    · rcases List.mem_cons.1 hq with rfl | hq'
      · rfl
      · exact absurd (List.mem_map.2 ⟨q, hq', e.symm⟩) hn'.1
    · rcases List.mem_cons.1 hq with rfl | hq'
      · exact absurd (List.mem_map.2 ⟨p, hp', e⟩) hn'.1
      · exact stamp_one hn'.2 hp' hq' e
theorem key_one : ∀ {ps : List (κ × Nat)} {p q : κ × Nat}, (ps.map Prod.fst).Nodup → p ∈ ps → q ∈ ps → p.1 = q.1 → p = q
  | [], _, _, _, hp, _, _ => by cases hp
  | a :: l, p, q, hn, hp, hq, e => by
    have hn' := List.nodup_cons.1 hn
    rcases List.mem_cons.1 hp with rfl | hp'
    · rcases List.mem_cons.1 hq with rfl | hq'
      · rfl
      · exact absurd (List.mem_map.2 ⟨q, hq', e.symm⟩) hn'.1
    · rcases List.mem_cons.1 hq with rfl | hq'
      · exact absurd (List.mem_map.2 ⟨p, hp', e⟩) hn'.1
      · exact key_one hn'.2 hp' hq' e
/-- The step of a range over a set. -/
theorem KIter.next [DecidableEq κ] {r : Nat} {left : List κ} (h : KIter kv w r b ks left) (ty : TypeId) :
    (left = [] ∧ (Instr.next (.pointer (some ⟨r, 0, none⟩)) false ty).run Tryz.prog w = .ok (.tuple #[.bool false]) w) ∨
    ∃ x w', x ∈ left ∧ (Instr.next (.pointer (some ⟨r, 0, none⟩)) false ty).run Tryz.prog w = .ok (.tuple #[.bool true, kv x, .bool true]) w' ∧ KIter kv w' r b ks (left.filter (fun y => decide (y ≠ x))) ∧ (left.filter (fun y => decide (y ≠ x))).length < left.length ∧
      w.grownBy w' (some r) ∧ w'.heap.size = w.heap.size ∧ (Instr.entry (.pointer (some ⟨r, 0, none⟩))).run Tryz.prog w' = .ok (.tuple #[kv x, .bool true]) w' := by
  obtain ⟨ps, c, since, seen, c0, hb, hk, hs, hr, hold, h1, h2, rfl⟩ := h
  have hbr : b ≠ r := fun e => by subst e; rw [hb] at hr; cases hr
  rcases run_next_at (P := Tryz.prog) w ty r b since c0 seen _ c hr hb (fun x hx => by
    simp at hx
    obtain ⟨a, n, hp, rfl⟩ := hx
    exact hold _ hp) h1 with ⟨h0, hrun⟩ | ⟨e, he, w1, hw1, hrun⟩
  · left
    refine ⟨?_, hrun⟩
    have : (leftOf (ps.map (entB kv)).toArray seen).toList.length = 0 := by simpa using h0
    rw [left_ents, List.length_map] at this
    rw [List.eq_nil_of_length_eq_zero this]; rfl
  · right
    rw [left_ents] at he
    obtain ⟨p, hp, rfl⟩ := List.mem_map.1 he
    have hpm := List.mem_filter.1 hp
    have hb1 : w1.heap[b]? = some (.map (ps.map (entB kv)).toArray c) := by rcases hw1 with rfl | rfl <;> exact hb
    have hr1 : w1.heap[r]? = some (.mapIter (some b) since seen c0) := by rcases hw1 with rfl | rfl <;> exact hr
    have hg1 : w.grownBy w1 (some r) := by rcases hw1 with rfl | rfl <;> exact ⟨rfl, rfl, rfl, Nat.le_refl _, fun _ _ _ => rfl⟩
    have hsz1 : w1.heap.size = w.heap.size := by rcases hw1 with rfl | rfl <;> rfl
    have hb2 : (setBlock w1 r (.mapIter (some b) since (seen.push (entB kv p).born) c)).heap[b]? = some (.map (ps.map (entB kv)).toArray c) := by rw [setB_other (w := w1) hbr, hb1]
    have hlf : (ps.filter (fun q => !(seen.push p.2).contains q.2)).map Prod.fst = ((ps.filter (fun q => !seen.contains q.2)).map Prod.fst).filter (fun y => decide (y ≠ p.1)) := by
      rw [List.filter_map, List.filter_filter]
      congr 1
      refine List.filter_congr (fun q hq => ?_)
      rw [contains_push]
      by_cases e : q.2 = p.2
      · have := stamp_one hs.stamps hq hpm.1 e
        subst this
        simp
      · have hne : ¬ q.1 = p.1 := fun e' => e (by rw [key_one hs.keys hq hpm.1 e'])
        simp [e, hne]
    refine ⟨p.1, setBlock w1 r (.mapIter (some b) since (seen.push p.2) c), List.mem_map.2 ⟨p, hp, rfl⟩, hrun, ⟨ps, c, since, seen.push p.2, c, hb2, hk, hs, setB_same hr1 _, hold, h2, h2, hlf.symm⟩, ?_, ?_, ?_, ?_⟩
    · have hin : p.1 ∈ (ps.filter (fun q => !seen.contains q.2)).map Prod.fst := List.mem_map.2 ⟨p, hp, rfl⟩
      generalize (ps.filter (fun q => !seen.contains q.2)).map Prod.fst = l at hin
      have := filter_lt (fun _ : κ => true) (fun y => decide (y ≠ p.1)) (fun _ _ => rfl) p.1 rfl (by simp) l hin
      rw [List.filter_eq_self.2 (fun _ _ => rfl)] at this
      exact this
    · exact ⟨hg1.os, hg1.tape, hg1.output, by simp [setBlock, hsz1], fun i hi hne => by
        rw [setB_other (w := w1) (fun e => hne (by rw [e]))]
        exact hg1.block i hi hne⟩
    · simp [setBlock, hsz1]
    · exact run_entry_at _ r b since seen _ c (entB kv p) (setB_same hr1 _) hb2 (by simp; exact ⟨p.1, p.2, hpm.1, rfl⟩) (by
        have : (ps.map (entB kv)).toArray.toList.map (fun e => e.born) = ps.map Prod.snd := by simp [entB, List.map_map, Function.comp_def]
        rw [this]; exact hs.stamps)
/-- A member has come out. -/
structure IterStep [DecidableEq κ] (kv : κ → Value) (w w' : World) (r b : Nat) (ks left : List κ) (x : κ) : Prop where
  mem : x ∈ left
  iter : KIter kv w' r b ks (left.filter (fun y => decide (y ≠ x)))
  less : (left.filter (fun y => decide (y ≠ x))).length < left.length
  grown : w.grownBy w' (some r)
  size : w'.heap.size = w.heap.size
/-- The step, at the operation. -/
theorem wpList_next_set [DecidableEq κ] {ops : Array Oper} {rest : List Oper} {o : Oper} {a : Act} {Q : Exit → Act → World → Prop} (hg : o.guard = none) (it : Operand) (hop : o.op = Op.next it false) (r b : Nat) (ks left : List κ) (hit : a.eval it = .pointer (some ⟨r, 0, none⟩)) (h : KIter kv w r b ks left)
    (hDone : left = [] → wpList Tryz.prog ops Q rest (a.put o.dst (.tuple #[.bool false])) w)
    (hMore : ∀ x w', IterStep kv w w' r b ks left x → (Instr.entry (.pointer (some ⟨r, 0, none⟩))).run Tryz.prog w' = .ok (.tuple #[kv x, .bool true]) w' → wpList Tryz.prog ops Q rest (a.put o.dst (.tuple #[.bool true, kv x, .bool true])) w') :
    wpList Tryz.prog ops Q (o :: rest) a w := by
  refine wpList_plain hg fun K' hK' => ?_
  unfold Oper.wp
  rcases h.next o.type with ⟨h0, hrun⟩ | ⟨x, w', hx, hrun, hi, hlt, hgr, hsz, hen⟩
  · simp [execOp, hop, hit, hrun, Result.andThen]
    exact hK' _ _ (hDone h0)
  · simp [execOp, hop, hit, hrun, Result.andThen]
    exact hK' _ _ (hMore x w' ⟨hx, hi, hlt, hgr, hsz⟩ hen)
end
/-- A holder as a value. -/
def holdV (h : Int × Int) : Value := .agg #[.int .i64 h.1, .int .i64 h.2]
theorem equal_hold (a b : Int × Int) (w : World) : (Op.equal 118 (holdV a) (holdV b)).run Tryz.prog w = .ok (decide (a = b)) w := by
  have u3 := Tryz.underlying2
  have hS : Tryz.prog.underlying 118 = some (.struct (Tryz.prog.fieldsOf 118)) := by kernel_rfl
  have hp : Tryz.prog.stoodInHeld 118 = false := by kernel_rfl
  obtain ⟨a1, a2⟩ := a
  obtain ⟨b1, b2⟩ := b
  show (Op.equalIn 10000 _ _ _).run _ _ = _
  rw [show (10000 : Nat) = 9999 + 1 from rfl, holdV, holdV, run_equalIn_agg w 9999 _ _ _ hS hp]
  simp only [Program.fieldsOf, Tryz.underlying118]
  go_simp
  by_cases h1 : a1 = b1
  · rw [if_pos h1]
    by_cases h2 : a2 = b2
    · rw [if_pos h2]; simp [h1, h2]
    · rw [if_neg h2]; simp [h2]
  · rw [if_neg h1]; simp [h1]
theorem keyLaw_hold : KeyLawS 118 holdV where
  law := {
    check := fun em x w => by kernel_rfl
    same := .inr ⟨_, (by kernel_rfl : Tryz.prog.underlying 118 = some (.struct (Tryz.prog.fieldsOf 118))), fun a b => rfl, equal_hold⟩ }
  bits x := by rw [show (10000 : Nat) = 9998 + 1 + 1 from rfl]; simp [holdV, Instr.sameBits]
  inj a b h := by simp [holdV] at h; exact Prod.ext h.1 h.2
def i64V (n : Int) : Value := .int .i64 n
end Go.Proofs.YtbnpoliogldohaaGreat
/- The contract of the program's stays (written by tools/gen_implstays.py). -/
namespace Go.Proofs.YtbnpoliogldohaaGreat
open Go.RowKit

/-- Does a statement stay, where these are needed? -/
def staysQ (p : Prg) (s : Stm) (ks : List (Int × Int)) : Bool := if s.op = 0 then (decide ((0, s.n) ∈ ks) || mayStm p s) else if s.op = 1 then (decide ((1, s.n) ∈ ks) || mayStm p s) else true
theorem zero_boolS (w : World) : (zeroValue 4).run Tryz.prog w = .ok (.bool false) w := by kernel_rfl
set_option maxRecDepth 100000 in
set_option maxHeartbeats 3200000 in
theorem stays_set (r : PRow) (p : Prg) (y : Int) (b1 b2 : Option Addr) (m1 m2 d1 d2 : Nat) (ts us : List Tm) (b : Nat) (ks : List (Int × Int)) (w : World) (h : ProgAt w r p) (hz : codeB p = 0) (hs : RightS p ⟨0, y, ts, us⟩) (h1 : Terms w b1 m1 ts) (h2 : Terms w b2 m2 us) (hk : KSet holdV w b ks) :
    Calls Tryz.prog 51 #[progV r, .agg #[.int .i64 0, .int .i64 y, .slice b1 m1 d1, .slice b2 m2 d2], .map (some b)] w fun e w' => e = .returned (.bool (staysQ p ⟨0, y, ts, us⟩ ks)) ∧ Below w.heap.size w w' := by
  have HMY : Hid (∀ w', Below w.heap.size w w' → Calls Tryz.prog 103 #[progV r, .agg #[.int .i64 0, .int .i64 y, .slice b1 m1 d1, .slice b2 m2 d2]] w' fun e w'' => e = .returned (.bool (mayStm p ⟨0, y, ts, us⟩)) ∧ Below w'.heap.size w' w'') := Lib.hid (fun w' hw => stmtMayTrap_any r p 0 y b1 b2 m1 m2 d1 d2 ts us w' (h.below hw) hz hs (h1.below (Nat.le_refl _) hw) (h2.below (Nat.le_refl _) hw))
  have HSQ : Hid (staysQ p ⟨0, y, ts, us⟩ ks = (decide ((0, y) ∈ ks) || mayStm p ⟨0, y, ts, us⟩)) := Lib.hid rfl
  obtain ⟨mx, HM⟩ : ∃ mx, Hid (mayStm p ⟨0, y, ts, us⟩ = mx) := ⟨_, rfl⟩
  rw [HM.out] at HMY HSQ
  obtain ⟨q, HQ⟩ : ∃ q, Hid (decide ((0, y) ∈ ks) = q) := ⟨_, rfl⟩
  rw [HQ.out] at HSQ
  rw [HSQ.out]
  clear HM HSQ
  have HKS := Lib.hid hk
  obtain ⟨wd, ⟨a1, n1, c1⟩, ⟨a2, n2, c2⟩, tp, ⟨a3, n3, c3⟩, ⟨a4, n4, c4⟩, rows⟩ := r
  clear h hz hs h1 h2 hk
  show Calls Tryz.prog 51 #[.agg #[.int .i64 wd, .slice a1 n1 c1, .slice a2 n2 c2, .int .i64 tp, .slice a3 n3 c3, .slice a4 n4 c4], .agg #[.int .i64 0, .int .i64 y, .slice b1 m1 d1, .slice b2 m2 d2], .map (some b)] w _
  obtain ⟨wa, HW⟩ : ∃ wa, Hid (wa = (w.alloc (.cells #[.int .i64 wd, .slice a1 n1 c1, .slice a2 n2 c2, .int .i64 tp, .slice a3 n3 c3, .slice a4 n4 c4] 28)).alloc (.cells #[.int .i64 0, .int .i64 y, .slice b1 m1 d1, .slice b2 m2 d2] 74)) := ⟨_, rfl⟩
  have B : Blk wa w.heap.size 28 [.int .i64 wd, .slice a1 n1 c1, .slice a2 n2 c2, .int .i64 tp, .slice a3 n3 c3, .slice a4 n4 c4] := by rw [HW.out]; exact (Blk.new w _ _).alloc _
  have BS : Blk wa (w.heap.size + 1) 74 [.int .i64 0, .int .i64 y, .slice b1 m1 d1, .slice b2 m2 d2] := by
    have := Blk.new (w.alloc (.cells #[.int .i64 wd, .slice a1 n1 c1, .slice a2 n2 c2, .int .i64 tp, .slice a3 n3 c3, .slice a4 n4 c4] 28)) 74 [.int .i64 0, .int .i64 y, .slice b1 m1 d1, .slice b2 m2 d2]
    rw [HW.out]
    simpa using this
  have HB : Below w.heap.size w wa := by rw [HW.out]; exact ((Below.refl _ _).alloc (Nat.le_refl _) _).alloc (by simp) _
  have HKA := Lib.hid (HKS.out.below HB HKS.out.lt)
  have HBF := Lib.hid HB
  have t0 := B.cell (j := 0) rfl
  have t1 := B.cell (j := 1) rfl
  have t2 := B.cell (j := 2) rfl
  have t3 := B.cell (j := 3) rfl
  have t4 := B.cell (j := 4) rfl
  have t5 := B.cell (j := 5) rfl
  have s0 := BS.cell (j := 0) rfl
  have s1 := BS.cell (j := 1) rfl
  have s2 := BS.cell (j := 2) rfl
  have s3 := BS.cell (j := 3) rfl
  clear B BS HB HKS
  have hlk := HKA.out.look keyLaw_hold Tryz.underlying78 (zero_boolS wa) (0, y)
  rw [HQ.out] at hlk
  simp only [holdV] at hlk
  rw [HW.out] at hlk
  clear HQ HKA t0 t1 t2 t3 t4 t5 s0 s1 s2 s3
  cases q with
  | true =>
    go_enter Tryz.func51, Tryz.ntmps51
    go_wp2_with fail
    go_ret
    exact ⟨rfl, by rw [← HW.out]; exact HBF.out⟩
  | false =>
    go_enter Tryz.func51, Tryz.ntmps51
    go_wp2_with fail
    rw [← HW.out]
    refine (HMY.out _ HBF.out).mono ?_
    rintro e w3 ⟨rfl, hb3⟩
    have HF := Lib.hid (HBF.out.trans (hb3.mono HBF.out.size))
    clear hb3
    go_wp2
    go_ret
    exact ⟨rfl, HF.out⟩
set_option maxRecDepth 100000 in
set_option maxHeartbeats 3200000 in
theorem stays_put (r : PRow) (p : Prg) (y : Int) (b1 b2 : Option Addr) (m1 m2 d1 d2 : Nat) (ts us : List Tm) (b : Nat) (ks : List (Int × Int)) (w : World) (h : ProgAt w r p) (hz : codeB p = 0) (hs : RightS p ⟨1, y, ts, us⟩) (h1 : Terms w b1 m1 ts) (h2 : Terms w b2 m2 us) (hk : KSet holdV w b ks) :
    Calls Tryz.prog 51 #[progV r, .agg #[.int .i64 1, .int .i64 y, .slice b1 m1 d1, .slice b2 m2 d2], .map (some b)] w fun e w' => e = .returned (.bool (staysQ p ⟨1, y, ts, us⟩ ks)) ∧ Below w.heap.size w w' := by
  have HMY : Hid (∀ w', Below w.heap.size w w' → Calls Tryz.prog 103 #[progV r, .agg #[.int .i64 1, .int .i64 y, .slice b1 m1 d1, .slice b2 m2 d2]] w' fun e w'' => e = .returned (.bool (mayStm p ⟨1, y, ts, us⟩)) ∧ Below w'.heap.size w' w'') := Lib.hid (fun w' hw => stmtMayTrap_any r p 1 y b1 b2 m1 m2 d1 d2 ts us w' (h.below hw) hz hs (h1.below (Nat.le_refl _) hw) (h2.below (Nat.le_refl _) hw))
  have HSQ : Hid (staysQ p ⟨1, y, ts, us⟩ ks = (decide ((1, y) ∈ ks) || mayStm p ⟨1, y, ts, us⟩)) := Lib.hid rfl
  obtain ⟨mx, HM⟩ : ∃ mx, Hid (mayStm p ⟨1, y, ts, us⟩ = mx) := ⟨_, rfl⟩
  rw [HM.out] at HMY HSQ
  obtain ⟨q, HQ⟩ : ∃ q, Hid (decide ((1, y) ∈ ks) = q) := ⟨_, rfl⟩
  rw [HQ.out] at HSQ
  rw [HSQ.out]
  clear HM HSQ
  have HKS := Lib.hid hk
  obtain ⟨wd, ⟨a1, n1, c1⟩, ⟨a2, n2, c2⟩, tp, ⟨a3, n3, c3⟩, ⟨a4, n4, c4⟩, rows⟩ := r
  clear h hz hs h1 h2 hk
  show Calls Tryz.prog 51 #[.agg #[.int .i64 wd, .slice a1 n1 c1, .slice a2 n2 c2, .int .i64 tp, .slice a3 n3 c3, .slice a4 n4 c4], .agg #[.int .i64 1, .int .i64 y, .slice b1 m1 d1, .slice b2 m2 d2], .map (some b)] w _
  obtain ⟨wa, HW⟩ : ∃ wa, Hid (wa = (w.alloc (.cells #[.int .i64 wd, .slice a1 n1 c1, .slice a2 n2 c2, .int .i64 tp, .slice a3 n3 c3, .slice a4 n4 c4] 28)).alloc (.cells #[.int .i64 1, .int .i64 y, .slice b1 m1 d1, .slice b2 m2 d2] 74)) := ⟨_, rfl⟩
  have B : Blk wa w.heap.size 28 [.int .i64 wd, .slice a1 n1 c1, .slice a2 n2 c2, .int .i64 tp, .slice a3 n3 c3, .slice a4 n4 c4] := by rw [HW.out]; exact (Blk.new w _ _).alloc _
  have BS : Blk wa (w.heap.size + 1) 74 [.int .i64 1, .int .i64 y, .slice b1 m1 d1, .slice b2 m2 d2] := by
    have := Blk.new (w.alloc (.cells #[.int .i64 wd, .slice a1 n1 c1, .slice a2 n2 c2, .int .i64 tp, .slice a3 n3 c3, .slice a4 n4 c4] 28)) 74 [.int .i64 1, .int .i64 y, .slice b1 m1 d1, .slice b2 m2 d2]
    rw [HW.out]
    simpa using this
  have HB : Below w.heap.size w wa := by rw [HW.out]; exact ((Below.refl _ _).alloc (Nat.le_refl _) _).alloc (by simp) _
  have HKA := Lib.hid (HKS.out.below HB HKS.out.lt)
  have HBF := Lib.hid HB
  have t0 := B.cell (j := 0) rfl
  have t1 := B.cell (j := 1) rfl
  have t2 := B.cell (j := 2) rfl
  have t3 := B.cell (j := 3) rfl
  have t4 := B.cell (j := 4) rfl
  have t5 := B.cell (j := 5) rfl
  have s0 := BS.cell (j := 0) rfl
  have s1 := BS.cell (j := 1) rfl
  have s2 := BS.cell (j := 2) rfl
  have s3 := BS.cell (j := 3) rfl
  clear B BS HB HKS
  have hlk := HKA.out.look keyLaw_hold Tryz.underlying78 (zero_boolS wa) (1, y)
  rw [HQ.out] at hlk
  simp only [holdV] at hlk
  rw [HW.out] at hlk
  clear HQ HKA t0 t1 t2 t3 t4 t5 s0 s1 s2 s3
  cases q with
  | true =>
    go_enter Tryz.func51, Tryz.ntmps51
    go_wp2_with fail
    go_ret
    exact ⟨rfl, by rw [← HW.out]; exact HBF.out⟩
  | false =>
    go_enter Tryz.func51, Tryz.ntmps51
    go_wp2_with fail
    rw [← HW.out]
    refine (HMY.out _ HBF.out).mono ?_
    rintro e w3 ⟨rfl, hb3⟩
    have HF := Lib.hid (HBF.out.trans (hb3.mono HBF.out.size))
    clear hb3
    go_wp2
    go_ret
    exact ⟨rfl, HF.out⟩
set_option maxRecDepth 100000 in
set_option maxHeartbeats 3200000 in
theorem stays_oth (r : PRow) (p : Prg) (x : Int) (y : Int) (b1 b2 : Option Addr) (m1 m2 d1 d2 : Nat) (ts us : List Tm) (b : Nat) (ks : List (Int × Int)) (w : World) (h : ProgAt w r p) (_hz : codeB p = 0) (_hs : RightS p ⟨x, y, ts, us⟩) (_h1 : Terms w b1 m1 ts) (_h2 : Terms w b2 m2 us) (hk : KSet holdV w b ks) (hx0 : x ≠ 0) (hx1 : x ≠ 1) :
    Calls Tryz.prog 51 #[progV r, .agg #[.int .i64 x, .int .i64 y, .slice b1 m1 d1, .slice b2 m2 d2], .map (some b)] w fun e w' => e = .returned (.bool (staysQ p ⟨x, y, ts, us⟩ ks)) ∧ Below w.heap.size w w' := by
  have HSQ : Hid (staysQ p ⟨x, y, ts, us⟩ ks = true) := Lib.hid (by unfold staysQ; rw [if_neg hx0, if_neg hx1])
  rw [HSQ.out]
  have HX0 : (x == 0) = false := by simpa using hx0
  have HX1 : (x == 1) = false := by simpa using hx1
  clear HSQ hx0 hx1
  have HKS := Lib.hid hk
  obtain ⟨wd, ⟨a1, n1, c1⟩, ⟨a2, n2, c2⟩, tp, ⟨a3, n3, c3⟩, ⟨a4, n4, c4⟩, rows⟩ := r
  clear h hk
  show Calls Tryz.prog 51 #[.agg #[.int .i64 wd, .slice a1 n1 c1, .slice a2 n2 c2, .int .i64 tp, .slice a3 n3 c3, .slice a4 n4 c4], .agg #[.int .i64 x, .int .i64 y, .slice b1 m1 d1, .slice b2 m2 d2], .map (some b)] w _
  obtain ⟨wa, HW⟩ : ∃ wa, Hid (wa = (w.alloc (.cells #[.int .i64 wd, .slice a1 n1 c1, .slice a2 n2 c2, .int .i64 tp, .slice a3 n3 c3, .slice a4 n4 c4] 28)).alloc (.cells #[.int .i64 x, .int .i64 y, .slice b1 m1 d1, .slice b2 m2 d2] 74)) := ⟨_, rfl⟩
  have B : Blk wa w.heap.size 28 [.int .i64 wd, .slice a1 n1 c1, .slice a2 n2 c2, .int .i64 tp, .slice a3 n3 c3, .slice a4 n4 c4] := by rw [HW.out]; exact (Blk.new w _ _).alloc _
  have BS : Blk wa (w.heap.size + 1) 74 [.int .i64 x, .int .i64 y, .slice b1 m1 d1, .slice b2 m2 d2] := by
    have := Blk.new (w.alloc (.cells #[.int .i64 wd, .slice a1 n1 c1, .slice a2 n2 c2, .int .i64 tp, .slice a3 n3 c3, .slice a4 n4 c4] 28)) 74 [.int .i64 x, .int .i64 y, .slice b1 m1 d1, .slice b2 m2 d2]
    rw [HW.out]
    simpa using this
  have HB : Below w.heap.size w wa := by rw [HW.out]; exact ((Below.refl _ _).alloc (Nat.le_refl _) _).alloc (by simp) _
  have HKA := Lib.hid (HKS.out.below HB HKS.out.lt)
  have HBF := Lib.hid HB
  have t0 := B.cell (j := 0) rfl
  have t1 := B.cell (j := 1) rfl
  have t2 := B.cell (j := 2) rfl
  have t3 := B.cell (j := 3) rfl
  have t4 := B.cell (j := 4) rfl
  have t5 := B.cell (j := 5) rfl
  have s0 := BS.cell (j := 0) rfl
  have s1 := BS.cell (j := 1) rfl
  have s2 := BS.cell (j := 2) rfl
  have s3 := BS.cell (j := 3) rfl
  clear B BS HB HKS
  clear HKA
  go_enter Tryz.func51, Tryz.ntmps51
  go_wp2_with fail
  go_ret
  exact ⟨rfl, by rw [← HW.out]; exact HBF.out⟩
theorem stays_any (r : PRow) (p : Prg) (x : Int) (y : Int) (b1 b2 : Option Addr) (m1 m2 d1 d2 : Nat) (ts us : List Tm) (b : Nat) (ks : List (Int × Int)) (w : World) (h : ProgAt w r p) (hz : codeB p = 0) (hs : RightS p ⟨x, y, ts, us⟩) (h1 : Terms w b1 m1 ts) (h2 : Terms w b2 m2 us) (hk : KSet holdV w b ks) :
    Calls Tryz.prog 51 #[progV r, .agg #[.int .i64 x, .int .i64 y, .slice b1 m1 d1, .slice b2 m2 d2], .map (some b)] w fun e w' => e = .returned (.bool (staysQ p ⟨x, y, ts, us⟩ ks)) ∧ Below w.heap.size w w' := by
  by_cases h0 : x = 0
  · subst h0; exact stays_set r p y b1 b2 m1 m2 d1 d2 ts us b ks w h hz hs h1 h2 hk
  by_cases h1' : x = 1
  · subst h1'; exact stays_put r p y b1 b2 m1 m2 d1 d2 ts us b ks w h hz hs h1 h2 hk
  exact stays_oth r p x y b1 b2 m1 m2 d1 d2 ts us b ks w h hz hs h1 h2 hk h0 h1'
end Go.Proofs.YtbnpoliogldohaaGreat
/- The contract of the program's appendNames: the names of a tree behind what was there, in two slices of the call's own. (Four walks of one text, one for each kind of tree.) -/
namespace Go.Proofs.YtbnpoliogldohaaGreat
open Go.RowKit

/-- The names of one Op in a tree, each ahead of those below it. -/
def nameIf (op op' n : Int) : List Int := if op' = op then [n] else []
mutual
def Tr.pre (op : Int) : Tr → List Int
  | .node op' n kids => nameIf op op' n ++ Tr.pres op kids
def Tr.pres (op : Int) : List Tr → List Int
  | [] => []
  | t :: r => t.pre op ++ Tr.pres op r
end
mutual
theorem mem_pre (op x : Int) : ∀ T : Tr, x ∈ T.pre op ↔ (op, x) ∈ T.flat
  | .node op' n kids => by
    simp only [Tr.pre, Tr.flat, List.mem_append, List.mem_singleton]
    rw [mem_pres op x kids]
    unfold nameIf
    by_cases h : op' = op
    · subst h
      rw [if_pos rfl, List.mem_singleton]
      constructor
      · rintro (h | h)
        · exact .inr (by rw [h])
        · exact .inl h
      · rintro (h | h)
        · exact .inr h
        · injection h with _ h; exact .inl h
    · rw [if_neg h]
      constructor
      · rintro (h' | h')
        · simp at h'
        · exact .inl h'
      · rintro (h' | h')
        · exact .inr h'
        · injection h' with h' _; exact absurd h'.symm h
theorem mem_pres (op x : Int) : ∀ Ts : List Tr, x ∈ Tr.pres op Ts ↔ (op, x) ∈ Tr.flats Ts
  | [] => by simp [Tr.pres, Tr.flats]
  | t :: r => by simp only [Tr.pres, Tr.flats, List.mem_append]; rw [mem_pre op x t, mem_pres op x r]
end
mutual
theorem pre_len (op : Int) : ∀ T : Tr, (T.pre op).length ≤ T.flat.length
  | .node op' n kids => by
    simp only [Tr.pre, Tr.flat, List.length_append, List.length_singleton]
    have := pres_len op kids
    have : (nameIf op op' n).length ≤ 1 := by unfold nameIf; split <;> simp
    omega
theorem pres_len (op : Int) : ∀ Ts : List Tr, (Tr.pres op Ts).length ≤ (Tr.flats Ts).length
  | [] => by simp [Tr.pres]
  | t :: r => by
    simp only [Tr.pres, Tr.flats, List.length_append]
    have := pre_len op t
    have := pres_len op r
    omega
end
theorem pres_append (op : Int) (a b : List Tr) : Tr.pres op (a ++ b) = Tr.pres op a ++ Tr.pres op b := by
  induction a with
  | nil => simp [Tr.pres]
  | cons t r ih => simp [Tr.pres, ih]
theorem pres_take_succ (op : Int) (kids : List Tr) (i : Nat) (h : i < kids.length) : Tr.pres op (kids.take (i + 1)) = Tr.pres op (kids.take i) ++ (kids.getD i default).pre op := by
  rw [List.take_succ_eq_append_getElem h, pres_append, List.getD_eq_getElem?_getD, List.getElem?_eq_getElem h]
  simp [Tr.pres]
theorem pres_take_len (op : Int) (kids : List Tr) (i : Nat) : (Tr.pres op (kids.take i)).length ≤ (Tr.flats (kids.take i)).length := pres_len op _

/-- Two slices in different blocks. -/
def Apart2 (v u : Value) : Prop := ∀ g, v.ownBlock = some g → u.ownBlock ≠ some g
/-- From w on, the blocks of v and u alone may have turned; v' lies in v's or a new one, u' in u's or a new one. -/
structure Two (w : World) (v u : Value) (w' : World) (v' u' : Value) : Prop where
  os : w'.os = w.os
  tape : w'.tape = w.tape
  output : w'.output = w.output
  size : w.heap.size ≤ w'.heap.size
  block : ∀ k, k < w.heap.size → some k ≠ v.ownBlock → some k ≠ u.ownBlock → w'.heap[k]? = w.heap[k]?
  left : ∀ g, v'.ownBlock = some g → v.ownBlock = some g ∨ w.heap.size ≤ g
  right : ∀ g, u'.ownBlock = some g → u.ownBlock = some g ∨ w.heap.size ≤ g
theorem Two.refl (w : World) (v u : Value) : Two w v u w v u := ⟨rfl, rfl, rfl, Nat.le_refl _, fun _ _ _ _ => rfl, fun _ h => .inl h, fun _ h => .inl h⟩
theorem Two.trans {w w1 w2 : World} {v u v1 u1 v2 u2 : Value} (h : Two w v u w1 v1 u1) (k : Two w1 v1 u1 w2 v2 u2) : Two w v u w2 v2 u2 := by
  refine ⟨k.os.trans h.os, k.tape.trans h.tape, k.output.trans h.output, Nat.le_trans h.size k.size, fun b hb h1 h2 => ?_, fun g hg => ?_, fun g hg => ?_⟩
  · refine (k.block b (Nat.lt_of_lt_of_le hb h.size) (fun e => ?_) (fun e => ?_)).trans (h.block b hb h1 h2)
    · rcases h.left b e.symm with h' | h'
      · exact h1 h'.symm
      · omega
    · rcases h.right b e.symm with h' | h'
      · exact h2 h'.symm
      · omega
  · rcases k.left g hg with h' | h'
    · exact h.left g h'
    · exact .inr (Nat.le_trans h.size h')
  · rcases k.right g hg with h' | h'
    · exact h.right g h'
    · exact .inr (Nat.le_trans h.size h')
theorem Two.of_left {w w1 : World} {v v1 u : Value} (h : GrowsTo w v w1 v1) : Two w v u w1 v1 u := ⟨h.1.os, h.1.tape, h.1.output, h.1.size, fun b hb h1 _ => h.1.block b hb h1, h.2, fun _ h => .inl h⟩
theorem Two.of_right {w w1 : World} {v u u1 : Value} (h : GrowsTo w u w1 u1) : Two w v u w1 v u1 := ⟨h.1.os, h.1.tape, h.1.output, h.1.size, fun b hb _ h2 => h.1.block b hb h2, fun _ h => .inl h, h.2⟩
theorem Two.of_below {w w1 : World} {v u : Value} (h : Below w.heap.size w w1) : Two w v u w1 v u := ⟨h.os, h.tape, h.output, h.size, fun b hb _ _ => h.block b hb, fun _ h => .inl h, fun _ h => .inl h⟩
theorem Two.below {w w' : World} {v u v' u' : Value} {B : Nat} (h : Two w v u w' v' u') (hB : B ≤ w.heap.size) (hv : ∀ g, v.ownBlock = some g → B ≤ g) (hu : ∀ g, u.ownBlock = some g → B ≤ g) : Below B w w' :=
  ⟨h.os, h.tape, h.output, h.size, fun k hk => h.block k (by omega) (fun e => by have := hv k e.symm; omega) (fun e => by have := hu k e.symm; omega)⟩

/-- Two slices of numbers of the call's own, in different blocks. -/
def Own2 (w : World) (B : Nat) (r s : Sl) (zs ys : List Int) : Prop := Own w B r.1 r.2.1 r.2.2 zs ∧ Own w B s.1 s.2.1 s.2.2 ys ∧ Apart2 (slV r) (slV s)
theorem Own2.below {w w' : World} {B : Nat} {r s : Sl} {zs ys : List Int} (h : Own2 w B r s zs ys) (hb : Below w.heap.size w w') : Own2 w' B r s zs ys := ⟨h.1.below hb, h.2.1.below hb, h.2.2⟩
theorem Own2.left {w w' : World} {B : Nat} {r r' s : Sl} {zs zs' ys : List Int} (h : Own2 w B r s zs ys) (hg : GrowsTo w (slV r) w' (slV r')) (ho : Own w' B r'.1 r'.2.1 r'.2.2 zs') : Own2 w' B r' s zs' ys := by
  refine ⟨ho, ⟨h.2.1.1.kept hg.1 ?_, h.2.1.2⟩, fun g hgr e => ?_⟩
  · cases hv : (Value.slice s.1 s.2.1 s.2.2).ownBlock with
    | none => exact .inl rfl
    | some g => exact .inr (fun e => h.2.2 g e.symm hv)
  · rcases hg.2 g hgr with h' | h'
    · exact h.2.2 g h' e
    · have := (h.2.1.block g e).2; omega
theorem Own2.right {w w' : World} {B : Nat} {r s s' : Sl} {zs ys ys' : List Int} (h : Own2 w B r s zs ys) (hg : GrowsTo w (slV s) w' (slV s')) (ho : Own w' B s'.1 s'.2.1 s'.2.2 ys') : Own2 w' B r s' zs ys' := by
  refine ⟨⟨h.1.1.kept hg.1 ?_, h.1.2⟩, ho, fun g hgr e => ?_⟩
  · cases hv : (Value.slice r.1 r.2.1 r.2.2).ownBlock with
    | none => exact .inl rfl
    | some g => exact .inr (fun e => h.2.2 g hv e.symm)
  · rcases hg.2 g e with h' | h'
    · exact h.2.2 g hgr h'
    · have := (h.1.block g hgr).2; omega
theorem keeps_two {w w' : World} {F : Nat → Prop} {B : Nat} {r s r' s' : Sl} {zs ys : List Int} (ho : Own2 w B r s zs ys) (h : Two w (slV r) (slV s) w' (slV r') (slV s')) : Keeps w F w' F := by
  refine fun b cur fz hF hh => ⟨h.block b (Array.getElem?_eq_some_iff.1 hh).1 (fun e => ?_) (fun e => ?_), hF⟩
  · obtain ⟨c', fz', h'⟩ := Go.Lib.ownsRow_kind ho.1.1 b e.symm
    rw [hh] at h'
    injection h' with h'
    injection h' with _ h'
    exact absurd h' (by decide)
  · obtain ⟨c', fz', h'⟩ := Go.Lib.ownsRow_kind ho.2.1.1 b e.symm
    rw [hh] at h'
    injection h' with h'
    injection h' with _ h'
    exact absurd h' (by decide)
theorem Own.alloc2 {w : World} {B : Nat} {a : Option Addr} {n c : Nat} {zs : List Int} (h : Own w B a n c zs) (o : Obj) : Own (w.alloc o) B a n c zs := ⟨h.1.alloc o, h.2⟩
theorem own_nil2 (w : World) (B : Nat) : Own w B none 0 0 [] := ⟨World.ownsRow_nil _ _ _ _, by omega, fun z hz => by simp at hz⟩
theorem info_i64' : (Tryz.prog.info? 2).map (fun i => (i.zero, i.size, i.bytes)) = some (some (.int .i64 0), 1, 8) := by kernel_rfl

/-- 'append(out, z)' of one number, and where the new slice lies. -/
theorem wpList_pushI {ops : Array Oper} {rest : List Oper} {o : Oper} {ac : Act} {Q : Exit → Act → World → Prop} (w : World) (hgd : o.guard = none) (s x : Operand)
    (ho : o.op = .call { callee := .builtin .append, args := #[s, x], argTypes := #[25, 25] })
    (B : Nat) (a : Option Addr) (n c : Nat) (zs : List Int) (hs : ac.eval s = .slice a n c) (hown : Own w B a n c zs)
    (g : Nat) (z : Int) (hx : ac.eval x = .slice (some ⟨g, 0, none⟩) 1 1) (hc : w.cell? ⟨g, 0, none⟩ = some (.int .i64 z)) (hz : In64 z) (hn : n < 1048576) (hB : B ≤ w.heap.size)
    (h : ∀ a1 c1 w', Own w' B a1 (n + 1) c1 (zs ++ [z]) → GrowsTo w (.slice a n c) w' (.slice a1 (n + 1) c1) → wpList Tryz.prog ops Q rest (ac.put o.dst (.slice a1 (n + 1) c1)) w') : wpList Tryz.prog ops Q (o :: rest) ac w := by
  refine wpList_pushG w hgd s x 25 2 (.int .i64 0) 1 8 ho Tryz.underlying25 info_i64' rfl (by omega) B a n c (zs.map (Value.int .i64)) hs hown.1 ⟨g, 0, none⟩ 1 1 [.int .i64 z] hx rfl ?_ ?_ ?_ ?_ hB ?_
  · intro j u hj
    match j, hj with
    | 0, hj => simp at hj; subst hj; simpa [Addr.add] using hc
  · intro u hu; simp at hu; subst hu; rfl
  · unfold maxLen; omega
  · omega
  · intro a1 c1 w' r1 r2
    refine h a1 c1 w' ⟨by simpa using r1, by omega, fun y hy => ?_⟩ r2
    rcases List.mem_append.1 hy with hy | hy
    · exact hown.2.2 y hy
    · rw [List.mem_singleton] at hy; subst hy; exact hz

/-! ### Which kind it is -/
theorem as_num_var (x : Value) (w : World) : (Instr.typeAssert (.iface 242 x) 202 269 true).run Tryz.prog w = .ok (.tuple #[.agg #[.int .i64 0], .bool false]) w := by kernel_rfl
theorem as_num_cell (x : Value) (w : World) : (Instr.typeAssert (.iface 242 x) 202 271 true).run Tryz.prog w = .ok (.tuple #[.agg #[.int .i64 0, .nilIface], .bool false]) w := by kernel_rfl
theorem as_var_var (x : Value) (w : World) : (Instr.typeAssert (.iface 269 x) 202 269 true).run Tryz.prog w = .ok (.tuple #[x, .bool true]) w := by kernel_rfl
theorem as_cell_var (x : Value) (w : World) : (Instr.typeAssert (.iface 271 x) 202 269 true).run Tryz.prog w = .ok (.tuple #[.agg #[.int .i64 0], .bool false]) w := by kernel_rfl
theorem as_cell_cell (x : Value) (w : World) : (Instr.typeAssert (.iface 271 x) 202 271 true).run Tryz.prog w = .ok (.tuple #[x, .bool true]) w := by kernel_rfl
theorem as_op_var (x : Value) (w : World) : (Instr.typeAssert (.iface 273 x) 202 269 true).run Tryz.prog w = .ok (.tuple #[.agg #[.int .i64 0], .bool false]) w := by kernel_rfl
theorem as_op_cell (x : Value) (w : World) : (Instr.typeAssert (.iface 273 x) 202 271 true).run Tryz.prog w = .ok (.tuple #[.agg #[.int .i64 0, .nilIface], .bool false]) w := by kernel_rfl

/-- What appendNames leaves. -/
def AppN (w : World) (B : Nat) (r s : Sl) (zs ys : List Int) (T : Tr) (e : Ending) (w' : World) : Prop :=
  ∃ r' s' : Sl, e = .returned (.tuple #[slV r', slV s']) ∧ Own2 w' B r' s' (zs ++ T.pre 1) (ys ++ T.pre 2) ∧ Two w (slV r) (slV s) w' (slV r') (slV s')
def AppNSaid (N : Nat) : Prop := ∀ (T : Tr) (v : Value) (w : World) (B : Nat) (a b : Option Addr) (n m c d : Nat) (zs ys : List Int), T.flat.length ≤ N → T.okT → IsTree w (fun _ => True) v T → Own2 w B (a, n, c) (b, m, d) zs ys → B ≤ w.heap.size → zs.length + T.flat.length ≤ 3000 → ys.length + T.flat.length ≤ 3000 →
  Calls Tryz.prog 229 #[.slice a n c, .slice b m d, v] w (AppN w B (a, n, c) (b, m, d) zs ys T)

set_option maxRecDepth 100000 in
set_option maxHeartbeats 2400000 in
theorem appN_num (N : Nat) (_ih : Hid (AppNSaid N)) (x : Int) (w : World) (B : Nat) (a b : Option Addr) (n m0 c d : Nat) (zs ys : List Int) (_hN : (Tr.node 0 x []).flat.length ≤ N + 1) (hok : (Tr.node 0 x []).okT) (ho : Own2 w B (a, n, c) (b, m0, d) zs ys) (hB : B ≤ w.heap.size) (hbz : zs.length + (Tr.node 0 x []).flat.length ≤ 3000) (hby : ys.length + (Tr.node 0 x []).flat.length ≤ 3000) :
    Calls Tryz.prog 229 #[.slice a n c, .slice b m0 d, .iface 242 (.agg #[.int .i64 x])] w (AppN w B (a, n, c) (b, m0, d) zs ys (Tr.node 0 x [])) := by
  have m1 := m_num_under (.int .i64 x)
  have q1 := as_num_var (.agg #[.int .i64 x])
  have q2 := as_num_cell (.agg #[.int .i64 x])
  have HL := Lib.hid ho.1.len
  have HM := Lib.hid ho.2.1.len
  have hin := okT_in hok
  simp only [Tr.okT] at hok
  clear hok
  simp only [Tr.flat, List.length_append, List.length_singleton] at hbz hby
  have hn1 : n ≤ 3000 := by have := HL.out; simp only [] at this; omega
  have hm1 : m0 ≤ 3000 := by have := HM.out; simp only [] at this; omega
  go_enter Tryz.func229, Tryz.ntmps229
  have hoA : Own2 w B (a, n, c) (b, m0, d) (zs ++ []) (ys ++ []) := by simpa using ho
  have htwA : Two w (slV (a, n, c)) (slV (b, m0, d)) w (slV (a, n, c)) (slV (b, m0, d)) := Two.refl _ _ _
  have hBA := hB
  clear ho
  go_wp2_with fail
  refine (num_under _ _).mono ?_
  rintro e w1 ⟨rfl, hb1⟩
  have ho1 := hoA.below hb1
  have hB1 : B ≤ w1.heap.size := Nat.le_trans hBA hb1.size
  skip
  obtain ⟨zs1, HZ1⟩ : ∃ zs1, Hid (zs ++ ([] : List Int) = zs1) := ⟨_, rfl⟩
  obtain ⟨ys1, HY1⟩ : ∃ ys1, Hid (ys ++ ([] : List Int) = ys1) := ⟨_, rfl⟩
  rw [HZ1.out, HY1.out] at ho1
  have hlz1 : zs1.length ≤ zs.length + 1 := by rw [← HZ1.out]; simp
  have hly1 : ys1.length ≤ ys.length + 1 := by rw [← HY1.out]; simp
  clear hoA
  go_wp2
  go_loopw [0, 1, 32] (fun ev eu i wr => ∃ (k : Nat) (a1 b1 : Option Addr) (n1 m1 c1 d1 : Nat), k ≤ 0 ∧ i = .int .i64 k ∧ ev = .slice a1 n1 c1 ∧ eu = .slice b1 m1 d1 ∧ Own2 wr B (a1, n1, c1) (b1, m1, d1) (zs1 ++ Tr.pres 1 (([]).take k)) (ys1 ++ Tr.pres 2 (([]).take k)) ∧ Two w1 (slV (a, n, c)) (slV (b, m0, d)) wr (slV (a1, n1, c1)) (slV (b1, m1, d1))) (fun _ _ i _ => 0 - (intOf i).toNat)
  case atStart => exact ⟨0, _, _, _, _, _, _, Nat.zero_le _, rfl, rfl, rfl, by simpa [Tr.pres] using ho1, Two.refl _ _ _⟩
  case round =>
    obtain ⟨k, a1, b1, n1, m1, c1, d1, hk, rfl, rfl, rfl, hown, htw⟩ := hrel
    have hBr : B ≤ wr.heap.size := Nat.le_trans hB1 htw.size
    by_cases hlt : k < 0
    · omega
    · obtain rfl : 0 = k := by omega
      have hall1 : Tr.pres 1 (([]).take (0)) = Tr.pres 1 ([]) := by rw [List.take_of_length_le (by simp)]
      have hall2 : Tr.pres 2 (([]).take (0)) = Tr.pres 2 ([]) := by rw [List.take_of_length_le (by simp)]
      rw [hall1, hall2] at hown
      have htw6 := (htwA.trans (Two.of_below hb1)).trans htw
      clear hall1 hall2 htw
      go_wp2
      go_ret2
      exact ⟨(a1, n1, c1), (b1, m1, d1), rfl, by rw [← HZ1.out, ← HY1.out] at hown; simp only [Tr.pre, nameIf]; simpa using hown, htw6⟩

set_option maxRecDepth 100000 in
set_option maxHeartbeats 2400000 in
theorem appN_var (N : Nat) (_ih : Hid (AppNSaid N)) (x : Int) (w : World) (B : Nat) (a b : Option Addr) (n m0 c d : Nat) (zs ys : List Int) (_hN : (Tr.node 1 x []).flat.length ≤ N + 1) (hok : (Tr.node 1 x []).okT) (ho : Own2 w B (a, n, c) (b, m0, d) zs ys) (hB : B ≤ w.heap.size) (hbz : zs.length + (Tr.node 1 x []).flat.length ≤ 3000) (hby : ys.length + (Tr.node 1 x []).flat.length ≤ 3000) :
    Calls Tryz.prog 229 #[.slice a n c, .slice b m0 d, .iface 269 (.agg #[.int .i64 x])] w (AppN w B (a, n, c) (b, m0, d) zs ys (Tr.node 1 x [])) := by
  have m1 := m_var_under (.int .i64 x)
  have q1 := as_var_var (.agg #[.int .i64 x])
  have HL := Lib.hid ho.1.len
  have HM := Lib.hid ho.2.1.len
  have hin := okT_in hok
  simp only [Tr.okT] at hok
  clear hok
  simp only [Tr.flat, List.length_append, List.length_singleton] at hbz hby
  have hn1 : n ≤ 3000 := by have := HL.out; simp only [] at this; omega
  have hm1 : m0 ≤ 3000 := by have := HM.out; simp only [] at this; omega
  go_enter Tryz.func229, Tryz.ntmps229
  have hs1 : B ≤ w.heap.size := hB
  go_wp2_with (at_builtin; refine wpList_pushI _ rfl _ _ rfl B _ _ _ zs rfl ((ho.1.alloc2 _).alloc2 _) (w.heap.size + 1) x rfl (by simp) hin.2 (by omega) (by simp; omega) ?_)
  intro a5 c5 w5 hown5 hgr5
  have hbA : Below w.heap.size w ((w.alloc (.cells #[.int .i64 x] 269)).alloc (.cells #[.int .i64 x] 2)) := ((Below.refl _ _).alloc (Nat.le_refl _) _).alloc (by simp) _
  have hoA := (ho.below hbA).left (r' := (a5, n + 1, c5)) hgr5 hown5
  have htwA : Two w (slV (a, n, c)) (slV (b, m0, d)) w5 (slV ((a5, n + 1, c5))) (slV ((b, m0, d))) := (Two.of_below hbA).trans (Two.of_left hgr5)
  have hBA : B ≤ w5.heap.size := by have := hgr5.size; simp at this; omega
  rw [← List.append_nil ys] at hoA
  clear ho hown5 hgr5 hbA
  go_wp2_with fail
  refine (var_under _ _).mono ?_
  rintro e w1 ⟨rfl, hb1⟩
  have ho1 := hoA.below hb1
  have hB1 : B ≤ w1.heap.size := Nat.le_trans hBA hb1.size
  skip
  obtain ⟨zs1, HZ1⟩ : ∃ zs1, Hid (zs ++ [x] = zs1) := ⟨_, rfl⟩
  obtain ⟨ys1, HY1⟩ : ∃ ys1, Hid (ys ++ ([] : List Int) = ys1) := ⟨_, rfl⟩
  rw [HZ1.out, HY1.out] at ho1
  have hlz1 : zs1.length ≤ zs.length + 1 := by rw [← HZ1.out]; simp
  have hly1 : ys1.length ≤ ys.length + 1 := by rw [← HY1.out]; simp
  clear hoA
  go_wp2
  go_loopw [0, 1, 32] (fun ev eu i wr => ∃ (k : Nat) (a1 b1 : Option Addr) (n1 m1 c1 d1 : Nat), k ≤ 0 ∧ i = .int .i64 k ∧ ev = .slice a1 n1 c1 ∧ eu = .slice b1 m1 d1 ∧ Own2 wr B (a1, n1, c1) (b1, m1, d1) (zs1 ++ Tr.pres 1 (([]).take k)) (ys1 ++ Tr.pres 2 (([]).take k)) ∧ Two w1 (slV (a5, n + 1, c5)) (slV (b, m0, d)) wr (slV (a1, n1, c1)) (slV (b1, m1, d1))) (fun _ _ i _ => 0 - (intOf i).toNat)
  case atStart => exact ⟨0, _, _, _, _, _, _, Nat.zero_le _, rfl, rfl, rfl, by simpa [Tr.pres] using ho1, Two.refl _ _ _⟩
  case round =>
    obtain ⟨k, a1, b1, n1, m1, c1, d1, hk, rfl, rfl, rfl, hown, htw⟩ := hrel
    have hBr : B ≤ wr.heap.size := Nat.le_trans hB1 htw.size
    by_cases hlt : k < 0
    · omega
    · obtain rfl : 0 = k := by omega
      have hall1 : Tr.pres 1 (([]).take (0)) = Tr.pres 1 ([]) := by rw [List.take_of_length_le (by simp)]
      have hall2 : Tr.pres 2 (([]).take (0)) = Tr.pres 2 ([]) := by rw [List.take_of_length_le (by simp)]
      rw [hall1, hall2] at hown
      have htw6 := (htwA.trans (Two.of_below hb1)).trans htw
      clear hall1 hall2 htw
      go_wp2
      go_ret2
      exact ⟨(a1, n1, c1), (b1, m1, d1), rfl, by rw [← HZ1.out, ← HY1.out] at hown; simp only [Tr.pre, nameIf]; simpa using hown, htw6⟩

set_option maxRecDepth 100000 in
set_option maxHeartbeats 2400000 in
theorem appN_cell (N : Nat) (ih : Hid (AppNSaid N)) (x : Int) (u0 : TypeId) (x0 : Value) (T0 : Tr) (w : World) (B : Nat) (a b : Option Addr) (n m0 c d : Nat) (zs ys : List Int) (hN : (Tr.node 2 x [T0]).flat.length ≤ N + 1) (hok : (Tr.node 2 x [T0]).okT) (hT0 : IsTree w (fun _ => True) (.iface u0 x0) T0) (ho : Own2 w B (a, n, c) (b, m0, d) zs ys) (hB : B ≤ w.heap.size) (hbz : zs.length + (Tr.node 2 x [T0]).flat.length ≤ 3000) (hby : ys.length + (Tr.node 2 x [T0]).flat.length ≤ 3000) :
    Calls Tryz.prog 229 #[.slice a n c, .slice b m0 d, .iface 271 (.agg #[.int .i64 x, .iface u0 x0])] w (AppN w B (a, n, c) (b, m0, d) zs ys (Tr.node 2 x [T0])) := by
  have m1 := m_cell_under (.int .i64 x) (.iface u0 x0)
  have q1 := as_cell_var (.agg #[.int .i64 x, .iface u0 x0])
  have q2 := as_cell_cell (.agg #[.int .i64 x, .iface u0 x0])
  have HL := Lib.hid ho.1.len
  have HM := Lib.hid ho.2.1.len
  have hin := okT_in hok
  simp only [Tr.okT] at hok
  have hok3 := hok.2.2; clear hok
  simp only [Tr.flat, List.length_append, List.length_singleton] at hN hbz hby
  have hn1 : n ≤ 3000 := by have := HL.out; simp only [] at this; omega
  have hm1 : m0 ≤ 3000 := by have := HM.out; simp only [] at this; omega
  go_enter Tryz.func229, Tryz.ntmps229
  have hs1 : B ≤ w.heap.size := hB
  go_wp2_with (at_builtin; refine wpList_pushI _ rfl _ _ rfl B _ _ _ ys rfl ((ho.2.1.alloc2 _).alloc2 _) (w.heap.size + 1) x rfl (by simp) hin.2 (by omega) (by simp; omega) ?_)
  intro a5 c5 w5 hown5 hgr5
  have hbA : Below w.heap.size w ((w.alloc (.cells #[.int .i64 x, .iface u0 x0] 271)).alloc (.cells #[.int .i64 x] 2)) := ((Below.refl _ _).alloc (Nat.le_refl _) _).alloc (by simp) _
  have hoA := (ho.below hbA).right (s' := (a5, m0 + 1, c5)) hgr5 hown5
  have htwA : Two w (slV (a, n, c)) (slV (b, m0, d)) w5 (slV ((a, n, c))) (slV ((a5, m0 + 1, c5))) := (Two.of_below hbA).trans (Two.of_right hgr5)
  have hBA : B ≤ w5.heap.size := by have := hgr5.size; simp at this; omega
  rw [← List.append_nil zs] at hoA
  have hT5 := hT0.keep ((keeps_below hbA).trans (keeps_own ((ho.2.1.alloc2 _).alloc2 _).1 hgr5.1 (by decide)))
  clear hT0 ho hown5 hgr5 hbA
  go_wp2_with fail
  refine (cell_under _ _ _ _).mono ?_
  rintro e w1 ⟨g, rfl, hg1, hg2, hb1⟩
  have ho1 := hoA.below hb1
  have hB1 : B ≤ w1.heap.size := Nat.le_trans hBA hb1.size
  have hrow : RowV w1 (fun _ => True) (some ⟨g, 0, none⟩) 1 [.iface u0 x0] := row_one hg2
  have HKIDS : Hid (∀ i, i < 1 → IsTree w1 (fun _ => True) (([.iface u0 x0] : List Value).getD i .nilIface) (([T0] : List Tr).getD i default)) := fun i hi => by
    obtain rfl : i = 0 := by omega
    exact hT5.keep (keeps_below hb1)
  clear hT5 hg2
  obtain ⟨zs1, HZ1⟩ : ∃ zs1, Hid (zs ++ ([] : List Int) = zs1) := ⟨_, rfl⟩
  obtain ⟨ys1, HY1⟩ : ∃ ys1, Hid (ys ++ [x] = ys1) := ⟨_, rfl⟩
  rw [HZ1.out, HY1.out] at ho1
  have hlz1 : zs1.length ≤ zs.length + 1 := by rw [← HZ1.out]; simp
  have hly1 : ys1.length ≤ ys.length + 1 := by rw [← HY1.out]; simp
  clear hoA
  go_wp2
  go_loopw [0, 1, 32] (fun ev eu i wr => ∃ (k : Nat) (a1 b1 : Option Addr) (n1 m1 c1 d1 : Nat), k ≤ 1 ∧ i = .int .i64 k ∧ ev = .slice a1 n1 c1 ∧ eu = .slice b1 m1 d1 ∧ Own2 wr B (a1, n1, c1) (b1, m1, d1) (zs1 ++ Tr.pres 1 (([T0]).take k)) (ys1 ++ Tr.pres 2 (([T0]).take k)) ∧ Two w1 (slV (a, n, c)) (slV (a5, m0 + 1, c5)) wr (slV (a1, n1, c1)) (slV (b1, m1, d1))) (fun _ _ i _ => 1 - (intOf i).toNat)
  case atStart => exact ⟨0, _, _, _, _, _, _, Nat.zero_le _, rfl, rfl, rfl, by simpa [Tr.pres] using ho1, Two.refl _ _ _⟩
  case round =>
    obtain ⟨k, a1, b1, n1, m1, c1, d1, hk, rfl, rfl, rfl, hown, htw⟩ := hrel
    have hBr : B ≤ wr.heap.size := Nat.le_trans hB1 htw.size
    by_cases hlt : k < 1
    · obtain ⟨kb, ko, hka, hbl, hcell⟩ := (hrow.keep (keeps_two ho1 htw)).at_ hlt
      have hkid := (HKIDS.out k hlt).keep (keeps_two ho1 htw)
      injection hka with hka; injection hka with e1 e2; subst e1 e2
      obtain ⟨u, y, hv⟩ := hkid.iface
      rw [hv] at hcell hkid
      clear hv
      simp only [Nat.zero_add] at hcell
      have hkl := flats_take_le ([T0]) k (by simp; omega)
      have hko := oks_getD hok3 (i := k) (by simp; omega)
      have HS1 := Lib.hid (pres_take_succ 1 ([T0]) k (by simp; omega))
      have HS2 := Lib.hid (pres_take_succ 2 ([T0]) k (by simp; omega))
      have hp1 := pres_take_len 1 ([T0]) k
      have hp2 := pres_take_len 2 ([T0]) k
      have hq1 : (zs1 ++ Tr.pres 1 (([T0]).take k)).length + (([T0]).getD k default).flat.length ≤ 3000 := by rw [List.length_append]; omega
      have hq2 : (ys1 ++ Tr.pres 2 (([T0]).take k)).length + (([T0]).getD k default).flat.length ≤ 3000 := by rw [List.length_append]; omega
      have hq3 : (([T0]).getD k default).flat.length ≤ N := by omega
      generalize ([T0]).getD k default = T1 at *
      go_wp2_with fail
      refine (ih.out _ _ wr B _ _ _ _ _ _ _ _ hq3 hko hkid hown hBr hq1 hq2).mono ?_
      rintro e w4 ⟨⟨a4, n4, c4⟩, ⟨b4, m4, d4⟩, rfl, hown4, htw4⟩
      simp only [slV] at htw4 ⊢
      have htw5 := htw.trans htw4
      clear hown htw htw4 hkid hcell hq1 hq2 hq3 hkl hko hp1 hp2
      go_wp2
      go_roundw
      case rel => exact ⟨k + 1, a4, b4, n4, m4, c4, d4, by omega, by go_num, rfl, rfl, by rw [HS1.out, HS2.out, ← List.append_assoc, ← List.append_assoc]; exact hown4, htw5⟩
      case measure => simp [intOf]; omega
    · obtain rfl : 1 = k := by omega
      have hall1 : Tr.pres 1 (([T0]).take (1)) = Tr.pres 1 ([T0]) := by rw [List.take_of_length_le (by simp)]
      have hall2 : Tr.pres 2 (([T0]).take (1)) = Tr.pres 2 ([T0]) := by rw [List.take_of_length_le (by simp)]
      rw [hall1, hall2] at hown
      have htw6 := (htwA.trans (Two.of_below hb1)).trans htw
      clear hall1 hall2 htw
      go_wp2
      go_ret2
      exact ⟨(a1, n1, c1), (b1, m1, d1), rfl, by rw [← HZ1.out, ← HY1.out] at hown; simp only [Tr.pre, nameIf]; simpa using hown, htw6⟩

set_option maxRecDepth 100000 in
set_option maxHeartbeats 2400000 in
theorem appN_op (N : Nat) (ih : Hid (AppNSaid N)) (k0 : Int) (ka : Option Addr) (m kc : Nat) (vs : List Value) (kids : List Tr) (w : World) (B : Nat) (a b : Option Addr) (n m0 c d : Nat) (zs ys : List Int) (hN : (Tr.node k0 0 kids).flat.length ≤ N + 1) (hok : (Tr.node k0 0 kids).okT) (h3 : 3 ≤ k0) (hm3 : m ≤ 3) (hkl0 : Hid (kids.length = m)) (hrow0 : RowV w (fun _ => True) ka m vs) (hkids0 : Hid (∀ i, i < m → IsTree w (fun _ => True) (vs.getD i .nilIface) (kids.getD i default))) (ho : Own2 w B (a, n, c) (b, m0, d) zs ys) (hB : B ≤ w.heap.size) (hbz : zs.length + (Tr.node k0 0 kids).flat.length ≤ 3000) (hby : ys.length + (Tr.node k0 0 kids).flat.length ≤ 3000) :
    Calls Tryz.prog 229 #[.slice a n c, .slice b m0 d, .iface 273 (.agg #[.int .i64 k0, .slice ka m kc])] w (AppN w B (a, n, c) (b, m0, d) zs ys (Tr.node k0 0 kids)) := by
  have m1 := m_op_under (.int .i64 k0) (.slice ka m kc)
  have q1 := as_op_var (.agg #[.int .i64 k0, .slice ka m kc])
  have q2 := as_op_cell (.agg #[.int .i64 k0, .slice ka m kc])
  have HL := Lib.hid ho.1.len
  have HM := Lib.hid ho.2.1.len
  have hin := okT_in hok
  simp only [Tr.okT] at hok
  have hok3 := hok.2.2; clear hok
  simp only [Tr.flat, List.length_append, List.length_singleton] at hN hbz hby
  have hn1 : n ≤ 3000 := by have := HL.out; simp only [] at this; omega
  have hm1 : m0 ≤ 3000 := by have := HM.out; simp only [] at this; omega
  go_enter Tryz.func229, Tryz.ntmps229
  have hoA : Own2 w B (a, n, c) (b, m0, d) (zs ++ []) (ys ++ []) := by simpa using ho
  have htwA : Two w (slV (a, n, c)) (slV (b, m0, d)) w (slV (a, n, c)) (slV (b, m0, d)) := Two.refl _ _ _
  have hBA := hB
  clear ho
  go_wp2_with fail
  refine (op_under _ _ _ _ _).mono ?_
  rintro e w1 ⟨rfl, hb1⟩
  have ho1 := hoA.below hb1
  have hB1 : B ≤ w1.heap.size := Nat.le_trans hBA hb1.size
  have hrow := hrow0.keep (keeps_below hb1)
  have HKIDS := Lib.hid (show ∀ i, i < m → IsTree w1 (fun _ => True) (vs.getD i .nilIface) (kids.getD i default) from fun i hi => (hkids0.out i hi).keep (keeps_below hb1))
  clear hkids0 hrow0
  obtain ⟨zs1, HZ1⟩ : ∃ zs1, Hid (zs ++ ([] : List Int) = zs1) := ⟨_, rfl⟩
  obtain ⟨ys1, HY1⟩ : ∃ ys1, Hid (ys ++ ([] : List Int) = ys1) := ⟨_, rfl⟩
  rw [HZ1.out, HY1.out] at ho1
  have hlz1 : zs1.length ≤ zs.length + 1 := by rw [← HZ1.out]; simp
  have hly1 : ys1.length ≤ ys.length + 1 := by rw [← HY1.out]; simp
  clear hoA
  go_wp2
  go_loopw [0, 1, 32] (fun ev eu i wr => ∃ (k : Nat) (a1 b1 : Option Addr) (n1 m1 c1 d1 : Nat), k ≤ m ∧ i = .int .i64 k ∧ ev = .slice a1 n1 c1 ∧ eu = .slice b1 m1 d1 ∧ Own2 wr B (a1, n1, c1) (b1, m1, d1) (zs1 ++ Tr.pres 1 ((kids).take k)) (ys1 ++ Tr.pres 2 ((kids).take k)) ∧ Two w1 (slV (a, n, c)) (slV (b, m0, d)) wr (slV (a1, n1, c1)) (slV (b1, m1, d1))) (fun _ _ i _ => m - (intOf i).toNat)
  case atStart => exact ⟨0, _, _, _, _, _, _, Nat.zero_le _, rfl, rfl, rfl, by simpa [Tr.pres] using ho1, Two.refl _ _ _⟩
  case round =>
    obtain ⟨k, a1, b1, n1, m1, c1, d1, hk, rfl, rfl, rfl, hown, htw⟩ := hrel
    have hBr : B ≤ wr.heap.size := Nat.le_trans hB1 htw.size
    by_cases hlt : k < m
    · obtain ⟨kb, ko, hka, hbl, hcell⟩ := (hrow.keep (keeps_two ho1 htw)).at_ hlt
      have hkid := (HKIDS.out k hlt).keep (keeps_two ho1 htw)
      subst hka
      obtain ⟨u, y, hv⟩ := hkid.iface
      rw [hv] at hcell hkid
      clear hv
      skip
      have hkl := flats_take_le (kids) k (by rw [hkl0.out]; omega)
      have hko := oks_getD hok3 (i := k) (by rw [hkl0.out]; omega)
      have HS1 := Lib.hid (pres_take_succ 1 (kids) k (by rw [hkl0.out]; omega))
      have HS2 := Lib.hid (pres_take_succ 2 (kids) k (by rw [hkl0.out]; omega))
      have hp1 := pres_take_len 1 (kids) k
      have hp2 := pres_take_len 2 (kids) k
      have hq1 : (zs1 ++ Tr.pres 1 ((kids).take k)).length + ((kids).getD k default).flat.length ≤ 3000 := by rw [List.length_append]; omega
      have hq2 : (ys1 ++ Tr.pres 2 ((kids).take k)).length + ((kids).getD k default).flat.length ≤ 3000 := by rw [List.length_append]; omega
      have hq3 : ((kids).getD k default).flat.length ≤ N := by omega
      generalize (kids).getD k default = T1 at *
      go_wp2_with fail
      refine (ih.out _ _ wr B _ _ _ _ _ _ _ _ hq3 hko hkid hown hBr hq1 hq2).mono ?_
      rintro e w4 ⟨⟨a4, n4, c4⟩, ⟨b4, m4, d4⟩, rfl, hown4, htw4⟩
      simp only [slV] at htw4 ⊢
      have htw5 := htw.trans htw4
      clear hown htw htw4 hkid hcell hq1 hq2 hq3 hkl hko hp1 hp2
      go_wp2
      go_roundw
      case rel => exact ⟨k + 1, a4, b4, n4, m4, c4, d4, by omega, by go_num, rfl, rfl, by rw [HS1.out, HS2.out, ← List.append_assoc, ← List.append_assoc]; exact hown4, htw5⟩
      case measure => simp [intOf]; omega
    · obtain rfl : m = k := by omega
      have hall1 : Tr.pres 1 ((kids).take (m)) = Tr.pres 1 (kids) := by rw [List.take_of_length_le (by rw [hkl0.out]; omega)]
      have hall2 : Tr.pres 2 ((kids).take (m)) = Tr.pres 2 (kids) := by rw [List.take_of_length_le (by rw [hkl0.out]; omega)]
      rw [hall1, hall2] at hown
      have htw6 := (htwA.trans (Two.of_below hb1)).trans htw
      clear hall1 hall2 htw
      go_wp2
      go_ret2
      exact ⟨(a1, n1, c1), (b1, m1, d1), rfl, by rw [← HZ1.out, ← HY1.out] at hown; simp only [Tr.pre, nameIf]; rw [if_neg (by omega), if_neg (by omega)]; simpa using hown, htw6⟩

theorem appN_all : ∀ N, AppNSaid N := by
  intro N
  induction N with
  | zero => intro T v w B a b n m c d zs ys hN; have := flat_pos T; omega
  | succ N ih =>
    have IH := Lib.hid ih
    clear ih
    intro T v w B a b n m c d zs ys hN hok hT ho hB hbz hby
    cases hT with
    | num x => exact appN_num N IH _ w B a b n m c d zs ys hN hok ho hB hbz hby
    | var x => exact appN_var N IH _ w B a b n m c d zs ys hN hok ho hB hbz hby
    | cell x v0 T0 h0 =>
      obtain ⟨u0, x0, rfl⟩ := h0.iface
      exact appN_cell N IH _ u0 x0 T0 w B a b n m c d zs ys hN hok h0 ho hB hbz hby
    | op k ka m' kc vs kids h1 h2 h3 h4 h5 h6 => exact appN_op N IH _ ka m' kc vs kids w B a b n m c d zs ys hN hok h1 h3 h4 h5 h6 ho hB hbz hby
theorem appendNames_any (T : Tr) (v : Value) (w : World) (hok : T.okT) (hT : IsTree w (fun _ => True) v T) (hbd : T.flat.length ≤ 3000) :
    Calls Tryz.prog 229 #[.slice none 0 0, .slice none 0 0, v] w (AppN w w.heap.size (none, 0, 0) (none, 0, 0) [] [] T) :=
  appN_all _ T v w w.heap.size none none 0 0 0 0 [] [] (Nat.le_refl _) hok hT ⟨own_nil2 _ _, own_nil2 _ _, fun g hg => by simp [slV, Value.ownBlock] at hg⟩ (Nat.le_refl _) (by simpa using hbd) (by simpa using hbd)
end Go.Proofs.YtbnpoliogldohaaGreat
