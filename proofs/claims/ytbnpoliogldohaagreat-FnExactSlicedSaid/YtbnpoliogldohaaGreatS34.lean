/- Joined texts of this proof (LayRegion, SpecCopy3, SpecNeed0, SpecNeed1, SpecNeed2, StartMath), in build order. -/
import Derived.Test.YtbnpoliogldohaaGreatS1
import Derived.Below
import Derived.Orders
import Derived.Test.YtbnpoliogldohaaGreatS33
import Derived.Test.YtbnpoliogldohaaGreatS22
import Derived.Test.YtbnpoliogldohaaGreatS32
import Derived.Test.YtbnpoliogldohaaGreatS29
import Derived.Test.YtbnpoliogldohaaGreatS30
import Derived.Test.YtbnpoliogldohaaGreatS14
import Derived.Test.YtbnpoliogldohaaGreatS16
/- A region that draws its order whose operations read, or lay what is new, and whose last one stores: what each leaves is told once, whatever the order. -/
namespace Go.Proofs.YtbnpoliogldohaaGreat
open Go.RowKit

section
variable {P : Program} {ops : Array Oper} {Q : Exit → Act → World → Prop} {md : Region.Mode}
def On (listed : Array Bool) (i : Nat) : Prop := listed.getD i true = true ∧ i < listed.size
/-- What a ready operation waits for has come up. -/
def Deps (md : Region.Mode) (o : Oper) (listed : Array Bool) : Prop := ∀ e ∈ o.after, Region.binds md e = true → listed.getD e.on false = true
theorem ready_iff {listed : Array Bool} {i : Nat} : i ∈ Region.ready md ops listed ↔ i < ops.size ∧ listed.getD i true = false ∧ ∃ o, ops[i]? = some o ∧ Deps md o listed := by
  unfold Region.ready Deps
  rw [List.mem_filter, List.mem_range]
  constructor
  · rintro ⟨h1, h2⟩
    rw [Bool.and_eq_true, Bool.not_eq_true'] at h2
    refine ⟨h1, h2.1, ops[i], Array.getElem?_eq_getElem h1, ?_⟩
    have h3 := h2.2
    rw [Array.getElem?_eq_getElem h1] at h3
    simp only [Option.map_some, Option.getD_some, Array.all_eq_true_iff_forall_mem] at h3
    intro e he hb
    have := h3 e he
    rw [hb] at this
    simpa using this
  · rintro ⟨h1, h2, o, ho, hd⟩
    refine ⟨h1, ?_⟩
    rw [Bool.and_eq_true, Bool.not_eq_true', ho]
    refine ⟨h2, ?_⟩
    simp only [Option.map_some, Option.getD_some, Array.all_eq_true_iff_forall_mem]
    intro e he
    cases hb : Region.binds md e with
    | false => rfl
    | true => simpa using hd e he hb
/-- Any invariant serves. -/
theorem wpAny_inv (I : Array Bool → Act → World → Prop) (hstep : ∀ listed a w, I listed a w → ∀ i o, ops[i]? = some o → listed.getD i true = false → Deps md o listed → wpOp P ops Q i (I (listed.setIfInBounds i true)) a w)
    (hend : ∀ listed a w, I listed a w → Region.ready md ops listed = [] → Q .normal a w) :
    ∀ (fuel : Nat) (listed : Array Bool) (a : Act) (w : World), listed.size = ops.size → (listed.toList.filter (fun b => !b)).length ≤ fuel → I listed a w → wpAny P md ops Q fuel listed a w
  | 0, listed, a, w, hs, hf, hi => by
    have hall : Region.ready md ops listed = [] := by
      refine List.eq_nil_iff_forall_not_mem.2 (fun i hr => ?_)
      obtain ⟨h1, h2, _⟩ := ready_iff.1 hr
      have hnil := List.eq_nil_of_length_eq_zero (Nat.le_zero.1 hf)
      have hlt : i < listed.size := by omega
      have hm : listed[i] ∈ listed.toList.filter (fun b => !b) := List.mem_filter.2 ⟨by simp, by
        rw [Array.getD_eq_getD_getElem?, Array.getElem?_eq_getElem hlt] at h2
        simpa using h2⟩
      rw [hnil] at hm
      cases hm
    exact ⟨hall, hend _ _ _ hi hall⟩
  | fuel + 1, listed, a, w, hs, hf, hi => by
    refine ⟨fun hr => hend _ _ _ hi hr, fun i hr => ?_⟩
    obtain ⟨h1, h2, o, ho, hd⟩ := ready_iff.1 hr
    refine wpOp_mono (fun a' w' hi' => wpAny_inv I hstep hend fuel (listed.setIfInBounds i true) a' w' (by simp [hs]) ?_ hi') (hstep listed a w hi i o ho h2 hd)
    have hlt : i < listed.size := by omega
    have h0 : listed[i] = false := by
      rw [Array.getD_eq_getD_getElem?, Array.getElem?_eq_getElem hlt] at h2
      simpa using h2
    have key : ∀ (l : List Bool) (i : Nat), (h : i < l.length) → l[i] = false → ((l.set i true).filter (fun b => !b)).length + 1 = (l.filter (fun b => !b)).length := by
      intro l
      induction l with
      | nil => intro i h; simp at h
      | cons b l ih =>
        intro i h e
        cases i with
        | zero => simp at e; subst e; simp
        | succ i =>
          have := ih i (by simpa using h) (by simpa using e)
          cases b <;> simp <;> omega
    have := key listed.toList i (by simpa using hlt) (by simpa using h0)
    rw [Array.toList_setIfInBounds]
    omega
/-- What an operation waits for, once and again. -/
def depsOf (md : Region.Mode) (ops : Array Oper) (i : Nat) : List Nat := match ops[i]? with
  | none => []
  | some o => (o.after.toList.filter (fun e => Region.binds md e)).map (fun e => e.on)
def reachK (md : Region.Mode) (ops : Array Oper) : Nat → List Nat → List Nat
  | 0, l => l
  | k + 1, l => reachK md ops k (l ++ l.flatMap (depsOf md ops))
def Shut (md : Region.Mode) (ops : Array Oper) (listed : Array Bool) : Prop := ∀ i, listed.getD i false = true → ∀ j ∈ depsOf md ops i, listed.getD j false = true
theorem shut_reach {listed : Array Bool} (h : Shut md ops listed) : ∀ (k : Nat) (l : List Nat), (∀ i ∈ l, listed.getD i false = true) → ∀ i ∈ reachK md ops k l, listed.getD i false = true
  | 0, _, hl => hl
  | k + 1, l, hl => shut_reach h k _ (fun i hi => by
    rcases List.mem_append.1 hi with hi | hi
    · exact hl i hi
    · obtain ⟨j, hj, hij⟩ := List.mem_flatMap.1 hi
      exact h j (hl j hj) i hij)
/-- The frame and the world, as they stand on the way. -/
structure LaySt (n N : Nat) (dst : Nat → Nat) (a : Act) (w : World) (a1 : Act) (w1 : World) : Prop where
  size : a1.tmps.size = N
  defers : a1.defers = a.defers
  other : ∀ t, (∀ j, j < n → dst j ≠ t) → a1.eval (.tmp t) = a.eval (.tmp t)
  bel : Below w.drew.heap.size w.drew w1
theorem eval_put {a : Act} {d t : Nat} {v : Value} (hd : d < a.tmps.size) : (a.put (some d) v).eval (.tmp t) = if d = t then v else a.eval (.tmp t) := by
  show (a.tmps.setIfInBounds d v).getD t undef = if d = t then v else a.tmps.getD t undef
  rw [Array.getD_eq_getD_getElem?, Array.getD_eq_getD_getElem?, Array.getElem?_setIfInBounds]
  by_cases h : d = t
  · subst h; simp [hd]
  · simp [h]
theorem getD_both {l : Array Bool} {i : Nat} (h : i < l.size) : l.getD i true = l.getD i false := by
  rw [Array.getD_eq_getD_getElem?, Array.getD_eq_getD_getElem?, Array.getElem?_eq_getElem h]; rfl
theorem getD_set_bool {l : Array Bool} {i j : Nat} (h : i < l.size) : (l.setIfInBounds i true).getD j false = if i = j then true else l.getD j false := by
  rw [Array.getD_eq_getD_getElem?, Array.getD_eq_getD_getElem?, Array.getElem?_setIfInBounds]
  by_cases e : i = j
  · subst e; simp [h]
  · simp [e]
def opsOk (ops : Array Oper) (n : Nat) (dst : Nat → Nat) : Bool := (List.range ops.size).all fun i => match ops[i]? with
  | some o => o.guard.isNone && (decide (n ≤ i) || o.dst == some (dst i))
  | none => false
def topOk (ops : Array Oper) (n : Nat) : Bool := (List.range (n + 1)).all fun i => (depsOf .any ops i).all fun j => decide (j < i)
def reachOk (ops : Array Oper) (n k : Nat) : Bool := (List.range n).all fun i => (reachK .any ops k [n]).contains i
/-- The law: each operation but the last reads, or lays what is new; the last one stores. -/
theorem wp_region_lay {id : Nat} {a : Act} {w : World} (hm : P.follows .mixedOrders = true) (n N : Nat) (dst : Nat → Nat) (G : Nat → Value → World → Prop)
    (hsz : ops.size = n + 1) (hN : a.tmps.size = N) (hopsB : opsOk ops n dst = true)
    (hd : ∀ i, i < n → dst i < N) (hinj : ∀ i j, i < n → j < n → dst i = dst j → i = j) (k : Nat) (hreachB : reachOk ops n k = true) (htopB : topOk ops n = true)
    (hG : ∀ i v w1 w2, G i v w1 → Below w1.heap.size w1 w2 → G i v w2)
    (hstep : ∀ i o, i < n → ops[i]? = some o → ∀ a1 w1, LaySt n N dst a w a1 w1 → (∀ j, j < n → (depsOf .any ops i).contains j = true → G j (a1.eval (.tmp (dst j))) w1) → o.wp P a1 w1 (fun a2 w2 => ∃ v, a2 = a1.put o.dst v ∧ G i v w2 ∧ Below w1.heap.size w1 w2) Q)
    (hlast : ∀ o, ops[n]? = some o → ∀ a1 w1, LaySt n N dst a w a1 w1 → (∀ j, j < n → G j (a1.eval (.tmp (dst j))) w1) → o.wp P a1 w1 (fun a2 w2 => Q .normal a2 w2) Q) : (Code.region id ops true).wp P Q a w := by
  have hops : ∀ i o, ops[i]? = some o → o.guard = none ∧ (i < n → o.dst = some (dst i)) := fun i o ho => by
    have hi := (Array.getElem?_eq_some_iff.1 ho).1
    have := List.all_eq_true.1 hopsB i (List.mem_range.2 hi)
    simp only [ho, Bool.and_eq_true, Bool.or_eq_true, decide_eq_true_eq, beq_iff_eq, Option.isNone_iff_eq_none] at this
    exact ⟨this.1, fun hin => this.2.resolve_left (by omega)⟩
  have hreach : ∀ i, i < n → i ∈ reachK .any ops k [n] := fun i hi => by
    have := List.all_eq_true.1 hreachB i (List.mem_range.2 hi)
    simpa using this
  have htop : ∀ i, i < n + 1 → ∀ j ∈ depsOf .any ops i, j < i := fun i hi j hj => by
    have := List.all_eq_true.1 (List.all_eq_true.1 htopB i (List.mem_range.2 hi)) j hj
    simpa using this
  refine wp_region_any hm ?_
  refine wpAny_inv (fun listed a1 w1 => listed.size = n + 1 ∧ Shut .any ops listed ∧ ((listed.getD n false = true ∧ Q .normal a1 w1) ∨ (listed.getD n false = false ∧ LaySt n N dst a w a1 w1 ∧ ∀ j, j < n → listed.getD j false = true → G j (a1.eval (.tmp (dst j))) w1))) ?_ ?_ _ _ _ _ (by simp) ?_ ?_
  · rintro listed a1 w1 ⟨hls, hsh, hc⟩ i o ho hl hdp
    have hi : i < n + 1 := by rw [← hsz]; exact (Array.getElem?_eq_some_iff.1 ho).1
    have hlf : listed.getD i false = false := by rw [← getD_both (by omega)]; exact hl
    have hdl : ∀ j ∈ depsOf .any ops i, listed.getD j false = true := fun j hj => by
      unfold depsOf at hj
      rw [ho] at hj
      simp only [List.mem_map, List.mem_filter] at hj
      obtain ⟨e, ⟨he, hb⟩, rfl⟩ := hj
      exact hdp e (by simpa using he) hb
    have hsh2 : Shut .any ops (listed.setIfInBounds i true) := fun k hk j hj => by
      rw [getD_set_bool (by omega)] at hk ⊢
      by_cases e : i = j
      · rw [if_pos e]
      · rw [if_neg e]
        by_cases e2 : i = k
        · subst e2; exact hdl j hj
        · rw [if_neg e2] at hk; exact hsh k hk j hj
    have hall : listed.getD n false = true → ∀ j, j < n → listed.getD j false = true := fun hn j hj => shut_reach hsh k [n] (fun k hk => by rw [List.mem_singleton] at hk; rw [hk]; exact hn) j (hreach j hj)
    obtain ⟨hgd, hdst⟩ := hops i o ho
    unfold wpOp
    rw [ho]
    simp only [Region.wanted, hgd]
    rw [if_pos trivial]
    left
    rcases hc with ⟨hn, _⟩ | ⟨hn, hst, hf⟩
    · rcases Nat.lt_or_ge i n with h | h
      · rw [hall hn i h] at hlf; cases hlf
      · have : i = n := by omega
        subst this; rw [hn] at hlf; cases hlf
    · rcases Nat.lt_or_ge i n with hin | hin
      · refine Oper.wp_mono ?_ (hstep i o hin ho a1 w1 hst (fun j hj hjd => hf j hj (hdl j (by simpa using hjd))))
        rintro a2 w2 ⟨v, rfl, hg, hb⟩
        rw [hdst hin]
        have hdi : dst i < a1.tmps.size := by rw [hst.size]; exact hd i hin
        refine ⟨by simp [hls], hsh2, .inr ⟨?_, ⟨?_, ?_, ?_, ?_⟩, ?_⟩⟩
        · rw [getD_set_bool (by omega), if_neg (by omega)]; exact hn
        · show (a1.tmps.setIfInBounds (dst i) v).size = N
          rw [Array.size_setIfInBounds]; exact hst.size
        · exact hst.defers
        · intro t ht
          rw [eval_put hdi, if_neg (ht i hin)]
          exact hst.other t ht
        · exact hst.bel.trans (hb.mono hst.bel.size)
        · intro j hj hlj
          rw [eval_put hdi]
          by_cases e : i = j
          · subst e; rw [if_pos rfl]; exact hg
          · rw [if_neg (fun h => e (hinj i j hin hj h))]
            rw [getD_set_bool (by omega), if_neg e] at hlj
            exact hG j _ w1 w2 (hf j hj hlj) hb
      · have hie : i = n := by omega
        subst hie
        have hfull : ∀ j, j < i → listed.getD j false = true := fun j hj => by
          have hsh3 := hsh2
          have := shut_reach hsh3 k [i] (fun k hk => by rw [List.mem_singleton] at hk; rw [hk, getD_set_bool (by omega), if_pos rfl]) j (hreach j hj)
          rw [getD_set_bool (by omega), if_neg (by omega)] at this
          exact this
        refine Oper.wp_mono ?_ (hlast o ho a1 w1 hst (fun j hj => hf j hj (hfull j hj)))
        intro a2 w2 hq
        exact ⟨by simp [hls], hsh2, .inl ⟨by rw [getD_set_bool (by omega), if_pos rfl], hq⟩⟩
  · rintro listed a1 w1 ⟨hls, hsh, hc⟩ hr
    rcases hc with ⟨_, hq⟩ | ⟨hn, hst, hf⟩
    · exact hq
    · exfalso
      have all : ∀ k i, i < k → i < n + 1 → listed.getD i false = true := by
        intro k
        induction k with
        | zero => intro i h; omega
        | succ k ih =>
          intro i hik hi
          cases hb : listed.getD i false with
          | true => rfl
          | false =>
            exfalso
            have hio : i < ops.size := by omega
            have hmem : i ∈ Region.ready .any ops listed := ready_iff.2 ⟨hio, by rw [getD_both (by omega)]; exact hb, ops[i], Array.getElem?_eq_getElem hio, fun e he hbd => by
              have hj : e.on ∈ depsOf .any ops i := by
                unfold depsOf
                rw [Array.getElem?_eq_getElem hio]
                simp only [List.mem_map, List.mem_filter]
                exact ⟨e, ⟨by simpa using he, hbd⟩, rfl⟩
              have := htop i hi _ hj
              exact ih e.on (by omega) (by omega)⟩
            rw [hr] at hmem
            cases hmem
      rw [all (n + 1) n (by omega) (by omega)] at hn
      cases hn
  · rw [Array.toList_replicate]
    simp
  · have hno : ∀ i, (Array.replicate ops.size false).getD i false = false := fun i => by
      rw [Array.getD_eq_getD_getElem?, Array.getElem?_replicate]; split <;> rfl
    refine ⟨by simp [hsz], fun i hi => ?_, .inr ⟨hno n, ⟨hN, rfl, fun _ _ => rfl, Below.refl _ _⟩, fun j _ hj => ?_⟩⟩
    · rw [hno i] at hi; cases hi
    · rw [hno j] at hj; cases hj
/-- Something of each operation, with its number. -/
def StepsAll (S : Nat → Oper → Prop) : Nat → List Oper → Prop
  | _, [] => True
  | i, o :: r => S i o ∧ StepsAll S (i + 1) r
theorem stepsAll_at {S : Nat → Oper → Prop} : ∀ {l : List Oper} {i k : Nat} {o : Oper}, StepsAll S i l → l[k]? = some o → S (i + k) o
  | [], _, _, _, _, h => by simp at h
  | x :: l, i, 0, o, hs, h => by simp at h; subst h; exact hs.1
  | x :: l, i, k + 1, o, hs, h => by
    have := stepsAll_at (i := i + 1) (k := k) hs.2 (by simpa using h)
    rw [show i + (k + 1) = i + 1 + k by omega]; exact this
/-- A slot, as the walk spells it. -/
theorem tmp_of {a : Act} {t : Nat} {v : Value} (h : a.eval (.tmp t) = v) : a.tmps[t]?.getD undef = v := by
  rw [← h]; show _ = a.tmps.getD t undef; rw [Array.getD_eq_getD_getElem?]
/-- The law, operation by operation. -/
theorem wp_region_lays {id : Nat} {a : Act} {w : World} (hm : P.follows .mixedOrders = true) (n N : Nat) (dst : Nat → Nat) (G : Nat → Value → World → Prop)
    (hsz : ops.size = n + 1) (hN : a.tmps.size = N) (hopsB : opsOk ops n dst = true)
    (hd : ∀ i, i < n → dst i < N) (hinj : ∀ i j, i < n → j < n → dst i = dst j → i = j) (k : Nat) (hreachB : reachOk ops n k = true) (htopB : topOk ops n = true)
    (hG : ∀ i v w1 w2, G i v w1 → Below w1.heap.size w1 w2 → G i v w2)
    (hall : StepsAll (fun i o => (i < n → ∀ a1 w1, LaySt n N dst a w a1 w1 → (∀ j, j < n → (depsOf .any ops i).contains j = true → G j (a1.eval (.tmp (dst j))) w1) → ∀ K : Act → World → Prop, (∀ v w2, G i v w2 → Below w1.heap.size w1 w2 → K (a1.put o.dst v) w2) → o.wp P a1 w1 K Q) ∧
      (i = n → ∀ a1 w1, LaySt n N dst a w a1 w1 → (∀ j, j < n → G j (a1.eval (.tmp (dst j))) w1) → ∀ K : Act → World → Prop, (∀ a2 w2, Q .normal a2 w2 → K a2 w2) → o.wp P a1 w1 K Q)) 0 ops.toList) : (Code.region id ops true).wp P Q a w :=
  wp_region_lay hm n N dst G hsz hN hopsB hd hinj k hreachB htopB hG
    (fun i o hi ho => by
      have := (stepsAll_at hall (k := i) (by simpa using ho)).1
      rw [Nat.zero_add] at this
      exact fun a1 w1 st hf => this hi a1 w1 st hf _ (fun v w2 hg hb => ⟨v, rfl, hg, hb⟩))
    (fun o ho => by
      have := (stepsAll_at hall (k := n) (by simpa using ho)).2
      rw [Nat.zero_add] at this
      exact fun a1 w1 st hf => this rfl a1 w1 st hf _ (fun _ _ h => h))
end
end Go.Proofs.YtbnpoliogldohaaGreat
/- The contract of the model's l3Copy (written by tools/gen_spec3copy.py). -/
namespace Go.Proofs.YtbnpoliogldohaaGreat
open Go.RowKit

theorem ownI_emptyL (w : World) (B : Nat) (hB : B ≤ w.heap.size) : OwnI (w.alloc (.cells #[] 68)) B (some ⟨w.heap.size, 0, none⟩) 0 0 [] := ⟨World.ownsRow_lit w #[] 0 hB (by unfold maxLen; omega) rfl, by omega, fun t ht => by simp at ht⟩
/-- What each operation of the region leaves. -/
def copyG (w wa : World) (p : Prg) (wd tp : Int) (a1 a2 a3 a4 : Option Addr) (n1 n2 n3 n4 c1 c2 c3 c4 : Nat) (i : Nat) (v : Value) (w' : World) : Prop := match i with
  | 0 => v = .pointer (some ⟨w.heap.size, 0, none⟩)
  | 1 => v = .int .i64 wd
  | 2 => ∃ g, v = .slice (some ⟨g, 0, none⟩) 0 0 ∧ OwnI w' wa.heap.size (some ⟨g, 0, none⟩) 0 0 []
  | 3 => v = .pointer (some ⟨w.heap.size, 1, none⟩)
  | 4 => v = .slice a1 n1 c1
  | 5 => ∃ s : Sl, v = slV s ∧ OwnI w' wa.heap.size s.1 s.2.1 s.2.2 p.lows
  | 6 => ∃ g, v = .slice (some ⟨g, 0, none⟩) 0 0 ∧ OwnI w' wa.heap.size (some ⟨g, 0, none⟩) 0 0 []
  | 7 => v = .pointer (some ⟨w.heap.size, 2, none⟩)
  | 8 => v = .slice a2 n2 c2
  | 9 => ∃ s : Sl, v = slV s ∧ OwnI w' wa.heap.size s.1 s.2.1 s.2.2 p.secrets
  | 10 => v = .pointer (some ⟨w.heap.size, 3, none⟩)
  | 11 => v = .int .i64 tp
  | 12 => ∃ g, v = .slice (some ⟨g, 0, none⟩) 0 0 ∧ Own w' wa.heap.size (some ⟨g, 0, none⟩) 0 0 []
  | 13 => v = .pointer (some ⟨w.heap.size, 4, none⟩)
  | 14 => v = .slice a3 n3 c3
  | 15 => ∃ s : Sl, v = slV s ∧ Own w' wa.heap.size s.1 s.2.1 s.2.2 p.arrays
  | 16 => v = .pointer (some ⟨w.heap.size, 5, none⟩)
  | 17 => v = .slice a4 n4 c4
  | 18 => ∃ (s : Sl) (rs : List SRow), v = slV s ∧ OwnStmts w' wa.heap.size s.1 s.2.1 s.2.2 rs p.body
  | 19 => ∃ (s1 s2 s3 s4 : Sl) (rs : List SRow), v = .agg #[.int .i64 wd, slV s1, slV s2, .int .i64 tp, slV s3, slV s4] ∧ OwnI w' wa.heap.size s1.1 s1.2.1 s1.2.2 p.lows ∧ OwnI w' wa.heap.size s2.1 s2.2.1 s2.2.2 p.secrets ∧ Own w' wa.heap.size s3.1 s3.2.1 s3.2.2 p.arrays ∧ OwnStmts w' wa.heap.size s4.1 s4.2.1 s4.2.2 rs p.body
  | _ => True
theorem copyG_stab (w wa : World) (p : Prg) (wd tp : Int) (a1 a2 a3 a4 : Option Addr) (n1 n2 n3 n4 c1 c2 c3 c4 : Nat) : ∀ (i : Nat) (v : Value) (w1 w2 : World), copyG w wa p wd tp a1 a2 a3 a4 n1 n2 n3 n4 c1 c2 c3 c4 i v w1 → Below w1.heap.size w1 w2 → copyG w wa p wd tp a1 a2 a3 a4 n1 n2 n3 n4 c1 c2 c3 c4 i v w2 := by
  intro i v w1 w2 h hb
  match i, h with
  | 0, h => exact h
  | 1, h => exact h
  | 2, h => obtain ⟨g, e, ho⟩ := h; exact ⟨g, e, ho.below hb⟩
  | 3, h => exact h
  | 4, h => exact h
  | 5, h => obtain ⟨s, e, ho⟩ := h; exact ⟨s, e, ho.below hb⟩
  | 6, h => obtain ⟨g, e, ho⟩ := h; exact ⟨g, e, ho.below hb⟩
  | 7, h => exact h
  | 8, h => exact h
  | 9, h => obtain ⟨s, e, ho⟩ := h; exact ⟨s, e, ho.below hb⟩
  | 10, h => exact h
  | 11, h => exact h
  | 12, h => obtain ⟨g, e, ho⟩ := h; exact ⟨g, e, ho.below hb⟩
  | 13, h => exact h
  | 14, h => exact h
  | 15, h => obtain ⟨s, e, ho⟩ := h; exact ⟨s, e, ho.below hb⟩
  | 16, h => exact h
  | 17, h => exact h
  | 18, h => obtain ⟨s, rs, e, ho⟩ := h; exact ⟨s, rs, e, ho.below hb⟩
  | 19, h => obtain ⟨s1, s2, s3, s4, rs, e, h1, h2, h3, h4⟩ := h; exact ⟨s1, s2, s3, s4, rs, e, h1.below hb, h2.below hb, h3.below hb, h4.below hb⟩
  | n + 20, h => exact trivial
set_option maxRecDepth 100000 in
set_option maxHeartbeats 6400000 in
theorem l3Copy_any (r : PRow) (p : Prg) (w : World) (h : ProgAt w r p) :
    Calls Tryz.prog 57 #[progV r] w fun e w' => ∃ (s1 s2 s3 s4 : Sl) (rs : List SRow), e = .returned (.agg #[.int .i64 r.width, slV s1, slV s2, .int .i64 r.temps, slV s3, slV s4]) ∧ OwnI w' w.heap.size s1.1 s1.2.1 s1.2.2 p.lows ∧ OwnI w' w.heap.size s2.1 s2.2.1 s2.2.2 p.secrets ∧ Own w' w.heap.size s3.1 s3.2.1 s3.2.2 p.arrays ∧ OwnStmts w' w.heap.size s4.1 s4.2.1 s4.2.2 rs p.body ∧ Below w.heap.size w w' := by
  have HP := Lib.hid (fun w' (hw : Below w.heap.size w w') => h.below hw)
  obtain ⟨wd, ⟨a1, n1, c1⟩, ⟨a2, n2, c2⟩, tp, ⟨a3, n3, c3⟩, ⟨a4, n4, c4⟩, rows⟩ := r
  clear h
  show Calls Tryz.prog 57 #[.agg #[.int .i64 wd, .slice a1 n1 c1, .slice a2 n2 c2, .int .i64 tp, .slice a3 n3 c3, .slice a4 n4 c4]] w _
  obtain ⟨wa, HW⟩ : ∃ wa, Hid (wa = (w.alloc (.cells #[.int .i64 wd, .slice a1 n1 c1, .slice a2 n2 c2, .int .i64 tp, .slice a3 n3 c3, .slice a4 n4 c4] 28)).alloc (.cells #[.int .i64 0, .slice none 0 0, .slice none 0 0, .int .i64 0, .slice none 0 0, .slice none 0 0] 28)) := ⟨_, rfl⟩
  have B0 : Blk wa w.heap.size 28 [.int .i64 wd, .slice a1 n1 c1, .slice a2 n2 c2, .int .i64 tp, .slice a3 n3 c3, .slice a4 n4 c4] := by rw [HW.out]; exact (Blk.new w _ _).alloc _
  have R0 : Blk wa (w.heap.size + 1) 28 [.int .i64 0, .slice none 0 0, .slice none 0 0, .int .i64 0, .slice none 0 0, .slice none 0 0] := by
    rw [HW.out]
    simpa using Blk.new (w.alloc (.cells #[.int .i64 wd, .slice a1 n1 c1, .slice a2 n2 c2, .int .i64 tp, .slice a3 n3 c3, .slice a4 n4 c4] 28)) 28 [.int .i64 0, .slice none 0 0, .slice none 0 0, .int .i64 0, .slice none 0 0, .slice none 0 0]
  have HB : Below w.heap.size w wa := by rw [HW.out]; exact ((Below.refl _ _).alloc (Nat.le_refl _) _).alloc (by simp) _
  have HBB := Lib.hid B0
  have HRR := Lib.hid R0
  have HBF := Lib.hid HB
  clear B0 R0 HB
  go_enter Tryz.func57, Tryz.ntmps57
  go_wp2_with fail
  rw [← HW.out]
  clear HW
  refine wp_region_lays (by kernel_rfl) 20 23 (fun i => i + 3) (copyG w wa p wd tp a1 a2 a3 a4 n1 n2 n3 n4 c1 c2 c3 c4) rfl rfl (by kernel_rfl) (fun i hi => by omega) (fun i j _ _ h => by simpa using h) 6 (by kernel_rfl) (by kernel_rfl) (copyG_stab w wa p wd tp a1 a2 a3 a4 n1 n2 n3 n4 c1 c2 c3 c4) ?_
  refine ⟨⟨fun _ x y st hf K hK => ?_, fun h => absurd h (by omega)⟩, ?_⟩
  · have hbw0 : Below wa.heap.size wa y := (show Below wa.heap.size wa wa.drew from ⟨rfl, rfl, rfl, Nat.le_refl _, fun _ _ => rfl⟩).trans (st.bel.mono (Nat.le_refl _))
    have hw0 := HBF.out.trans (hbw0.mono HBF.out.size)
    have hl0 := hbw0.size
    unfold Oper.wp
    have h1 := tmp_of (show x.eval (.tmp 1) = .pointer (some ⟨w.heap.size, 0, none⟩) from st.other 1 (fun j hj => by omega))
    go_simp
    exact hK _ _ rfl (Below.refl _ _)
  refine ⟨⟨fun _ x y st hf K hK => ?_, fun h => absurd h (by omega)⟩, ?_⟩
  · have hbw0 : Below wa.heap.size wa y := (show Below wa.heap.size wa wa.drew from ⟨rfl, rfl, rfl, Nat.le_refl _, fun _ _ => rfl⟩).trans (st.bel.mono (Nat.le_refl _))
    have hw0 := HBF.out.trans (hbw0.mono HBF.out.size)
    have hl0 := hbw0.size
    unfold Oper.wp
    have h0 := tmp_of (show x.eval (.tmp 3) = .pointer (some ⟨w.heap.size, 0, none⟩) from hf 0 (by omega) (by kernel_rfl))
    have c0 := (HBB.out.below hbw0 HBB.out.lt).cell (j := 0) rfl
    go_simp
    exact hK _ _ rfl (Below.refl _ _)
  refine ⟨⟨fun _ x y st hf K hK => ?_, fun h => absurd h (by omega)⟩, ?_⟩
  · have hbw0 : Below wa.heap.size wa y := (show Below wa.heap.size wa wa.drew from ⟨rfl, rfl, rfl, Nat.le_refl _, fun _ _ => rfl⟩).trans (st.bel.mono (Nat.le_refl _))
    have hw0 := HBF.out.trans (hbw0.mono HBF.out.size)
    have hl0 := hbw0.size
    unfold Oper.wp
    go_simp
    exact hK _ _ ⟨_, rfl, ownI_emptyL y _ hl0⟩ ((Below.refl _ _).alloc (Nat.le_refl _) _)
  refine ⟨⟨fun _ x y st hf K hK => ?_, fun h => absurd h (by omega)⟩, ?_⟩
  · have hbw0 : Below wa.heap.size wa y := (show Below wa.heap.size wa wa.drew from ⟨rfl, rfl, rfl, Nat.le_refl _, fun _ _ => rfl⟩).trans (st.bel.mono (Nat.le_refl _))
    have hw0 := HBF.out.trans (hbw0.mono HBF.out.size)
    have hl0 := hbw0.size
    unfold Oper.wp
    have h1 := tmp_of (show x.eval (.tmp 1) = .pointer (some ⟨w.heap.size, 0, none⟩) from st.other 1 (fun j hj => by omega))
    go_simp
    exact hK _ _ rfl (Below.refl _ _)
  refine ⟨⟨fun _ x y st hf K hK => ?_, fun h => absurd h (by omega)⟩, ?_⟩
  · have hbw0 : Below wa.heap.size wa y := (show Below wa.heap.size wa wa.drew from ⟨rfl, rfl, rfl, Nat.le_refl _, fun _ _ => rfl⟩).trans (st.bel.mono (Nat.le_refl _))
    have hw0 := HBF.out.trans (hbw0.mono HBF.out.size)
    have hl0 := hbw0.size
    unfold Oper.wp
    have h0 := tmp_of (show x.eval (.tmp 6) = .pointer (some ⟨w.heap.size, 1, none⟩) from hf 3 (by omega) (by kernel_rfl))
    have c0 := (HBB.out.below hbw0 HBB.out.lt).cell (j := 1) rfl
    go_simp
    exact hK _ _ rfl (Below.refl _ _)
  refine ⟨⟨fun _ x y st hf K hK => ?_, fun h => absurd h (by omega)⟩, ?_⟩
  · have hbw0 : Below wa.heap.size wa y := (show Below wa.heap.size wa wa.drew from ⟨rfl, rfl, rfl, Nat.le_refl _, fun _ _ => rfl⟩).trans (st.bel.mono (Nat.le_refl _))
    have hw0 := HBF.out.trans (hbw0.mono HBF.out.size)
    have hl0 := hbw0.size
    obtain ⟨g, hg, hg2⟩ := hf 2 (by omega) (by kernel_rfl)
    have h2 : x.eval (.tmp 7) = .slice a1 n1 c1 := hf 4 (by omega) (by kernel_rfl)
    have hT := (HP.out y hw0).lows
    simp only [] at hT
    refine wp_fresh _ _ 24 68 rfl (.agg #[.int .i64 0, .int .i64 0]) 2 16 Tryz.underlying24 info_input rfl (by omega) wa.heap.size g hg hg2.1 _ _ _ h2 (flatV p.lows) (by rw [flatV_len, hT.1]) (terms_some hT) (flatV_one _) (by have := hT.2.1; unfold maxLen; omega) (by have := hT.2.1; omega) hl0 ?_
    intro a5 c5 w5 ho5 hb5
    exact hK _ _ ⟨(a5, n1, c5), rfl, ho5, hT.2.1, hT.2.2.1⟩ hb5
  refine ⟨⟨fun _ x y st hf K hK => ?_, fun h => absurd h (by omega)⟩, ?_⟩
  · have hbw0 : Below wa.heap.size wa y := (show Below wa.heap.size wa wa.drew from ⟨rfl, rfl, rfl, Nat.le_refl _, fun _ _ => rfl⟩).trans (st.bel.mono (Nat.le_refl _))
    have hw0 := HBF.out.trans (hbw0.mono HBF.out.size)
    have hl0 := hbw0.size
    unfold Oper.wp
    go_simp
    exact hK _ _ ⟨_, rfl, ownI_emptyL y _ hl0⟩ ((Below.refl _ _).alloc (Nat.le_refl _) _)
  refine ⟨⟨fun _ x y st hf K hK => ?_, fun h => absurd h (by omega)⟩, ?_⟩
  · have hbw0 : Below wa.heap.size wa y := (show Below wa.heap.size wa wa.drew from ⟨rfl, rfl, rfl, Nat.le_refl _, fun _ _ => rfl⟩).trans (st.bel.mono (Nat.le_refl _))
    have hw0 := HBF.out.trans (hbw0.mono HBF.out.size)
    have hl0 := hbw0.size
    unfold Oper.wp
    have h1 := tmp_of (show x.eval (.tmp 1) = .pointer (some ⟨w.heap.size, 0, none⟩) from st.other 1 (fun j hj => by omega))
    go_simp
    exact hK _ _ rfl (Below.refl _ _)
  refine ⟨⟨fun _ x y st hf K hK => ?_, fun h => absurd h (by omega)⟩, ?_⟩
  · have hbw0 : Below wa.heap.size wa y := (show Below wa.heap.size wa wa.drew from ⟨rfl, rfl, rfl, Nat.le_refl _, fun _ _ => rfl⟩).trans (st.bel.mono (Nat.le_refl _))
    have hw0 := HBF.out.trans (hbw0.mono HBF.out.size)
    have hl0 := hbw0.size
    unfold Oper.wp
    have h0 := tmp_of (show x.eval (.tmp 10) = .pointer (some ⟨w.heap.size, 2, none⟩) from hf 7 (by omega) (by kernel_rfl))
    have c0 := (HBB.out.below hbw0 HBB.out.lt).cell (j := 2) rfl
    go_simp
    exact hK _ _ rfl (Below.refl _ _)
  refine ⟨⟨fun _ x y st hf K hK => ?_, fun h => absurd h (by omega)⟩, ?_⟩
  · have hbw0 : Below wa.heap.size wa y := (show Below wa.heap.size wa wa.drew from ⟨rfl, rfl, rfl, Nat.le_refl _, fun _ _ => rfl⟩).trans (st.bel.mono (Nat.le_refl _))
    have hw0 := HBF.out.trans (hbw0.mono HBF.out.size)
    have hl0 := hbw0.size
    obtain ⟨g, hg, hg2⟩ := hf 6 (by omega) (by kernel_rfl)
    have h2 : x.eval (.tmp 11) = .slice a2 n2 c2 := hf 8 (by omega) (by kernel_rfl)
    have hT := (HP.out y hw0).secrets
    simp only [] at hT
    refine wp_fresh _ _ 24 68 rfl (.agg #[.int .i64 0, .int .i64 0]) 2 16 Tryz.underlying24 info_input rfl (by omega) wa.heap.size g hg hg2.1 _ _ _ h2 (flatV p.secrets) (by rw [flatV_len, hT.1]) (terms_some hT) (flatV_one _) (by have := hT.2.1; unfold maxLen; omega) (by have := hT.2.1; omega) hl0 ?_
    intro a5 c5 w5 ho5 hb5
    exact hK _ _ ⟨(a5, n2, c5), rfl, ho5, hT.2.1, hT.2.2.1⟩ hb5
  refine ⟨⟨fun _ x y st hf K hK => ?_, fun h => absurd h (by omega)⟩, ?_⟩
  · have hbw0 : Below wa.heap.size wa y := (show Below wa.heap.size wa wa.drew from ⟨rfl, rfl, rfl, Nat.le_refl _, fun _ _ => rfl⟩).trans (st.bel.mono (Nat.le_refl _))
    have hw0 := HBF.out.trans (hbw0.mono HBF.out.size)
    have hl0 := hbw0.size
    unfold Oper.wp
    have h1 := tmp_of (show x.eval (.tmp 1) = .pointer (some ⟨w.heap.size, 0, none⟩) from st.other 1 (fun j hj => by omega))
    go_simp
    exact hK _ _ rfl (Below.refl _ _)
  refine ⟨⟨fun _ x y st hf K hK => ?_, fun h => absurd h (by omega)⟩, ?_⟩
  · have hbw0 : Below wa.heap.size wa y := (show Below wa.heap.size wa wa.drew from ⟨rfl, rfl, rfl, Nat.le_refl _, fun _ _ => rfl⟩).trans (st.bel.mono (Nat.le_refl _))
    have hw0 := HBF.out.trans (hbw0.mono HBF.out.size)
    have hl0 := hbw0.size
    unfold Oper.wp
    have h0 := tmp_of (show x.eval (.tmp 13) = .pointer (some ⟨w.heap.size, 3, none⟩) from hf 10 (by omega) (by kernel_rfl))
    have c0 := (HBB.out.below hbw0 HBB.out.lt).cell (j := 3) rfl
    go_simp
    exact hK _ _ rfl (Below.refl _ _)
  refine ⟨⟨fun _ x y st hf K hK => ?_, fun h => absurd h (by omega)⟩, ?_⟩
  · have hbw0 : Below wa.heap.size wa y := (show Below wa.heap.size wa wa.drew from ⟨rfl, rfl, rfl, Nat.le_refl _, fun _ _ => rfl⟩).trans (st.bel.mono (Nat.le_refl _))
    have hw0 := HBF.out.trans (hbw0.mono HBF.out.size)
    have hl0 := hbw0.size
    unfold Oper.wp
    go_simp
    exact hK _ _ ⟨_, rfl, own_empty y _ hl0⟩ ((Below.refl _ _).alloc (Nat.le_refl _) _)
  refine ⟨⟨fun _ x y st hf K hK => ?_, fun h => absurd h (by omega)⟩, ?_⟩
  · have hbw0 : Below wa.heap.size wa y := (show Below wa.heap.size wa wa.drew from ⟨rfl, rfl, rfl, Nat.le_refl _, fun _ _ => rfl⟩).trans (st.bel.mono (Nat.le_refl _))
    have hw0 := HBF.out.trans (hbw0.mono HBF.out.size)
    have hl0 := hbw0.size
    unfold Oper.wp
    have h1 := tmp_of (show x.eval (.tmp 1) = .pointer (some ⟨w.heap.size, 0, none⟩) from st.other 1 (fun j hj => by omega))
    go_simp
    exact hK _ _ rfl (Below.refl _ _)
  refine ⟨⟨fun _ x y st hf K hK => ?_, fun h => absurd h (by omega)⟩, ?_⟩
  · have hbw0 : Below wa.heap.size wa y := (show Below wa.heap.size wa wa.drew from ⟨rfl, rfl, rfl, Nat.le_refl _, fun _ _ => rfl⟩).trans (st.bel.mono (Nat.le_refl _))
    have hw0 := HBF.out.trans (hbw0.mono HBF.out.size)
    have hl0 := hbw0.size
    unfold Oper.wp
    have h0 := tmp_of (show x.eval (.tmp 16) = .pointer (some ⟨w.heap.size, 4, none⟩) from hf 13 (by omega) (by kernel_rfl))
    have c0 := (HBB.out.below hbw0 HBB.out.lt).cell (j := 4) rfl
    go_simp
    exact hK _ _ rfl (Below.refl _ _)
  refine ⟨⟨fun _ x y st hf K hK => ?_, fun h => absurd h (by omega)⟩, ?_⟩
  · have hbw0 : Below wa.heap.size wa y := (show Below wa.heap.size wa wa.drew from ⟨rfl, rfl, rfl, Nat.le_refl _, fun _ _ => rfl⟩).trans (st.bel.mono (Nat.le_refl _))
    have hw0 := HBF.out.trans (hbw0.mono HBF.out.size)
    have hl0 := hbw0.size
    obtain ⟨g, hg, hg2⟩ := hf 12 (by omega) (by kernel_rfl)
    have h2 : x.eval (.tmp 17) = .slice a3 n3 c3 := hf 14 (by omega) (by kernel_rfl)
    have hT := (HP.out y hw0).arrays
    simp only [] at hT
    refine wp_fresh _ _ 25 2 rfl (.int .i64 0) 1 8 Tryz.underlying25 info_i64 rfl (by omega) wa.heap.size g hg hg2.1 _ _ _ h2 (p.arrays.map (Value.int .i64)) (by have := hT.1; simp; omega) (ints_some hT) (ints_oneCell _ _) (by have := hT.2.1; unfold maxLen; omega) (by have := hT.2.1; omega) hl0 ?_
    intro a5 c5 w5 ho5 hb5
    exact hK _ _ ⟨(a5, n3, c5), rfl, ho5, hT.2.1, hT.2.2.1⟩ hb5
  refine ⟨⟨fun _ x y st hf K hK => ?_, fun h => absurd h (by omega)⟩, ?_⟩
  · have hbw0 : Below wa.heap.size wa y := (show Below wa.heap.size wa wa.drew from ⟨rfl, rfl, rfl, Nat.le_refl _, fun _ _ => rfl⟩).trans (st.bel.mono (Nat.le_refl _))
    have hw0 := HBF.out.trans (hbw0.mono HBF.out.size)
    have hl0 := hbw0.size
    unfold Oper.wp
    have h1 := tmp_of (show x.eval (.tmp 1) = .pointer (some ⟨w.heap.size, 0, none⟩) from st.other 1 (fun j hj => by omega))
    go_simp
    exact hK _ _ rfl (Below.refl _ _)
  refine ⟨⟨fun _ x y st hf K hK => ?_, fun h => absurd h (by omega)⟩, ?_⟩
  · have hbw0 : Below wa.heap.size wa y := (show Below wa.heap.size wa wa.drew from ⟨rfl, rfl, rfl, Nat.le_refl _, fun _ _ => rfl⟩).trans (st.bel.mono (Nat.le_refl _))
    have hw0 := HBF.out.trans (hbw0.mono HBF.out.size)
    have hl0 := hbw0.size
    unfold Oper.wp
    have h0 := tmp_of (show x.eval (.tmp 19) = .pointer (some ⟨w.heap.size, 5, none⟩) from hf 16 (by omega) (by kernel_rfl))
    have c0 := (HBB.out.below hbw0 HBB.out.lt).cell (j := 5) rfl
    go_simp
    exact hK _ _ rfl (Below.refl _ _)
  refine ⟨⟨fun _ x y st hf K hK => ?_, fun h => absurd h (by omega)⟩, ?_⟩
  · have hbw0 : Below wa.heap.size wa y := (show Below wa.heap.size wa wa.drew from ⟨rfl, rfl, rfl, Nat.le_refl _, fun _ _ => rfl⟩).trans (st.bel.mono (Nat.le_refl _))
    have hw0 := HBF.out.trans (hbw0.mono HBF.out.size)
    have hl0 := hbw0.size
    unfold Oper.wp
    have h2 := tmp_of (show x.eval (.tmp 20) = .slice a4 n4 c4 from hf 17 (by omega) (by kernel_rfl))
    have hT := (HP.out y hw0).body
    simp only [] at hT
    go_simp
    refine (l3CopyBody_any a4 n4 c4 rows p.body y hT).mono ?_
    rintro e w5 ⟨a5, n5, c5, rs5, rfl, ho5, hb5⟩
    exact hK _ _ ⟨(a5, n5, c5), rs5, rfl, ho5.base hl0⟩ hb5
  refine ⟨⟨fun _ x y st hf K hK => ?_, fun h => absurd h (by omega)⟩, ?_⟩
  · have hbw0 : Below wa.heap.size wa y := (show Below wa.heap.size wa wa.drew from ⟨rfl, rfl, rfl, Nat.le_refl _, fun _ _ => rfl⟩).trans (st.bel.mono (Nat.le_refl _))
    have hw0 := HBF.out.trans (hbw0.mono HBF.out.size)
    have hl0 := hbw0.size
    unfold Oper.wp
    have h1 := tmp_of (show x.eval (.tmp 4) = .int .i64 wd from hf 1 (by omega) (by kernel_rfl))
    have h4 := tmp_of (show x.eval (.tmp 14) = .int .i64 tp from hf 11 (by omega) (by kernel_rfl))
    obtain ⟨s1, e1, o1⟩ := hf 5 (by omega) (by kernel_rfl)
    obtain ⟨s2, e2, o2⟩ := hf 9 (by omega) (by kernel_rfl)
    obtain ⟨s3, e3, o3⟩ := hf 15 (by omega) (by kernel_rfl)
    obtain ⟨s4, rs, e4, o4⟩ := hf 18 (by omega) (by kernel_rfl)
    have d1 := tmp_of e1
    have d2 := tmp_of e2
    have d3 := tmp_of e3
    have d4 := tmp_of e4
    clear e1 e2 e3 e4
    simp only [slV] at d1 d2 d3 d4
    go_simp
    exact hK _ _ ⟨s1, s2, s3, s4, rs, rfl, o1, o2, o3, o4⟩ (Below.refl _ _)
  refine ⟨⟨fun h => absurd h (by omega), fun _ x y st hf K hK => ?_⟩, True.intro⟩
  have hbw0 : Below wa.heap.size wa y := (show Below wa.heap.size wa wa.drew from ⟨rfl, rfl, rfl, Nat.le_refl _, fun _ _ => rfl⟩).trans (st.bel.mono (Nat.le_refl _))
  have hw0 := HBF.out.trans (hbw0.mono HBF.out.size)
  have hl0 := hbw0.size
  obtain ⟨s1, s2, s3, s4, rs, e, o1, o2, o3, o4⟩ := hf 19 (by omega)
  have d := tmp_of e
  have d2 := tmp_of (show x.eval (.tmp 2) = .pointer (some ⟨w.heap.size + 1, 0, none⟩) from st.other 2 (fun j hj => by omega))
  have R1 := HRR.out.below hbw0 HRR.out.lt
  have hf0 : Below w.heap.size w y := hw0
  have r0 := R1.cell (j := 0) rfl
  have r1 := R1.cell (j := 1) rfl
  have r2 := R1.cell (j := 2) rfl
  have r3 := R1.cell (j := 3) rfl
  have r4 := R1.cell (j := 4) rfl
  have r5 := R1.cell (j := 5) rfl
  have z0 := R1.frozen 0
  have z1 := R1.frozen 1
  have z2 := R1.frozen 2
  have z3 := R1.frozen 3
  have z4 := R1.frozen 4
  have z5 := R1.frozen 5
  simp only [slV] at d
  unfold Oper.wp
  go_simp
  refine hK _ _ ?_
  go_wp2
  have hrl := HRR.out.lt
  have hle := HBF.out.size
  refine bodyPost_ret (v := .agg #[.int .i64 wd, .slice s1.1 s1.2.1 s1.2.2, .slice s2.1 s2.2.1 s2.2.2, .int .i64 tp, .slice s3.1 s3.2.1 s3.2.2, .slice s4.1 s4.2.1 s4.2.2]) (by simp [results, Tryz.results57, go_sem, d2, r0, r1, r2, r3, r4, r5]) st.defers ?_
  exact ⟨s1.1, s1.2.1, s1.2.2, s2.1, s2.2.1, s2.2.2, s3.1, s3.2.1, s3.2.2, s4.1, s4.2.1, s4.2.2, rfl, ((((((o1.set (by omega) _).set (by omega) _).set (by omega) _).set (by omega) _).set (by omega) _).set (by omega) _).base hle, ((((((o2.set (by omega) _).set (by omega) _).set (by omega) _).set (by omega) _).set (by omega) _).set (by omega) _).base hle, ((((((o3.set (by omega) _).set (by omega) _).set (by omega) _).set (by omega) _).set (by omega) _).set (by omega) _).base hle, ⟨rs, ((((((o4.set (by omega) _).set (by omega) _).set (by omega) _).set (by omega) _).set (by omega) _).set (by omega) _).base hle⟩, (below_set (below_set (below_set (below_set (below_set (below_set hf0 (by simp) _) (by simp) _) (by simp) _) (by simp) _) (by simp) _) (by simp) _)⟩
end Go.Proofs.YtbnpoliogldohaaGreat
/- The contract of the model's l9Stmt. -/
namespace Go.Proofs.YtbnpoliogldohaaGreat
open Go.RowKit

set_option maxHeartbeats 800000 in
theorem l9May_nil (r : PRow) (a : Option Addr) (c : Nat) (w : World) :
    Calls Tryz.prog 111 #[progV r, .slice a 0 c] w fun e w' => e = .returned (.bool false) ∧ Below w.heap.size w w' := by
  obtain ⟨wd, ⟨a1, n1, c1⟩, ⟨a2, n2, c2⟩, tp, ⟨a3, n3, c3⟩, ⟨a4, n4, c4⟩, rows⟩ := r
  show Calls Tryz.prog 111 #[.agg #[.int .i64 wd, .slice a1 n1 c1, .slice a2 n2 c2, .int .i64 tp, .slice a3 n3 c3, .slice a4 n4 c4], .slice a 0 c] w _
  have HB := Lib.hid ((Below.refl w.heap.size w).alloc (Nat.le_refl _) (.cells #[.int .i64 wd, .slice a1 n1 c1, .slice a2 n2 c2, .int .i64 tp, .slice a3 n3 c3, .slice a4 n4 c4] 28))
  go_enter Tryz.func111, Tryz.ntmps111
  go_wp2
  refine wp_loop_rounds 1 ?_
  rw [rounds_succ]
  go_wp2
  go_ret
  exact ⟨rfl, HB.out⟩
theorem l9May_all (r : PRow) (p : Prg) (a : Option Addr) (n c : Nat) (ts : List Tm) (w : World) (h : ProgAt w r p) (hz : codeB p = 0) (hs : standQ p ts = true ∨ ts = []) (ht : Terms w a n ts) (hc : n ≤ c) :
    Calls Tryz.prog 111 #[progV r, .slice a n c] w fun e w' => e = .returned (.bool (Tr.traps p.arrays (stackOf ts))) ∧ Below w.heap.size w w' := by
  rcases hs with hs | hs
  · exact l9May_any r p a n c ts w h hz hs ht hc
  · subst hs
    have : n = 0 := by have := ht.1; simpa using this.symm
    subst this
    exact l9May_nil r a c w
theorem right_stand {p : Prg} {s : Stm} (h : RightF p s) : (standQ p s.at_ = true ∨ s.at_ = []) ∧ (standQ p s.exp = true ∨ s.exp = []) := by
  constructor
  · by_cases h1 : s.op = 1
    · exact .inl (h.at1 h1)
    · exact .inr (h.noat h1)
  · cases hb : bears s.op with
    | true => exact .inl (h.exp hb)
    | false => exact .inr (h.noexp hb)
set_option maxRecDepth 100000 in
set_option maxHeartbeats 6400000 in
theorem l9Stmt_any (r : PRow) (p : Prg) (x y : Int) (b1 b2 : Option Addr) (m1 m2 d1 d2 : Nat) (ts us : List Tm) (w : World) (h : ProgAt w r p) (hz : codeB p = 0) (hs : RightS p ⟨x, y, ts, us⟩) (h1 : Terms w b1 m1 ts) (h2 : Terms w b2 m2 us) (hd1 : m1 ≤ d1) (hd2 : m2 ≤ d2) :
    Calls Tryz.prog 58 #[progV r, .agg #[.int .i64 x, .int .i64 y, .slice b1 m1 d1, .slice b2 m2 d2]] w fun e w' => e = .returned (.bool (mayStm p ⟨x, y, ts, us⟩)) ∧ Below w.heap.size w w' := by
  have hR := right_f hs
  have hst := right_stand hR
  simp only [] at hst
  have HMA : Hid (∀ w', Below w.heap.size w w' → Calls Tryz.prog 111 #[progV r, .slice b1 m1 d1] w' fun e w'' => e = .returned (.bool (Tr.traps p.arrays (stackOf ts))) ∧ Below w'.heap.size w' w'') := Lib.hid (fun w' hw => l9May_all r p _ _ _ ts w' (h.below hw) hz hst.1 (h1.below (Nat.le_refl _) hw) hd1)
  have HME : Hid (∀ w', Below w.heap.size w w' → Calls Tryz.prog 111 #[progV r, .slice b2 m2 d2] w' fun e w'' => e = .returned (.bool (Tr.traps p.arrays (stackOf us))) ∧ Below w'.heap.size w' w'') := Lib.hid (fun w' hw => l9May_all r p _ _ _ us w' (h.below hw) hz hst.2 (h2.below (Nat.le_refl _) hw) hd2)
  have HKN : Hid (x = 1 → ∃ (b o j : Nat) (z : Int), y = (j : Int) ∧ j < r.arrays.2.1 ∧ r.arrays.1 = some ⟨b, o, none⟩ ∧ b < w.heap.size ∧ Hid (z = p.arrays.getD j 0) ∧ w.cell? ⟨b, o + j, none⟩ = some (.int .i64 z) ∧ ∀ w', Below w.heap.size w w' → Calls Tryz.prog 112 #[.slice b1 m1 d1, .int .i64 z, .bool false] w' fun e w'' => e = .returned (.bool (knownB ts z false)) ∧ Below w'.heap.size w' w'') := Lib.hid (fun hx => by
    have hp := hR.put hx
    simp only [] at hp
    have ha := h.arrays
    have hal := ha.1
    obtain ⟨b, o, z, e1, hb, hzz, hin, hc⟩ := ha.at_ (k := y.toNat) (by omega)
    exact ⟨b, o, y.toNat, z, by omega, by omega, e1, hb, hzz, hc, fun w' hw => l9Known_any _ _ _ ts z false w' (h1.below (Nat.le_refl _) hw)⟩)
  have HMS : Hid (mayStm p ⟨x, y, ts, us⟩ = (Tr.traps p.arrays (stackOf ts) || Tr.traps p.arrays (stackOf us) || (decide (x = 1) && !knownB ts (p.arrays.getD y.toNat 0) false))) := Lib.hid rfl
  obtain ⟨ma, HA⟩ : ∃ ma, Hid (Tr.traps p.arrays (stackOf ts) = ma) := ⟨_, rfl⟩
  obtain ⟨me, HE⟩ : ∃ me, Hid (Tr.traps p.arrays (stackOf us) = me) := ⟨_, rfl⟩
  rw [HA.out] at HMA
  rw [HE.out] at HME
  rw [HA.out, HE.out] at HMS
  rw [HMS.out]
  obtain ⟨wd, ⟨a1, n1, c1⟩, ⟨a2, n2, c2⟩, tp, ⟨a3, n3, c3⟩, ⟨a4, n4, c4⟩, rows⟩ := r
  have hn3 := h.arrays.2.1
  clear h hz hs h1 h2 hR hst HA HE HMS hd1 hd2
  show Calls Tryz.prog 58 #[.agg #[.int .i64 wd, .slice a1 n1 c1, .slice a2 n2 c2, .int .i64 tp, .slice a3 n3 c3, .slice a4 n4 c4], .agg #[.int .i64 x, .int .i64 y, .slice b1 m1 d1, .slice b2 m2 d2]] w _
  obtain ⟨wa, HW⟩ : ∃ wa, Hid (wa = (w.alloc (.cells #[.int .i64 wd, .slice a1 n1 c1, .slice a2 n2 c2, .int .i64 tp, .slice a3 n3 c3, .slice a4 n4 c4] 28)).alloc (.cells #[.int .i64 x, .int .i64 y, .slice b1 m1 d1, .slice b2 m2 d2] 74)) := ⟨_, rfl⟩
  have B : Blk wa w.heap.size 28 [.int .i64 wd, .slice a1 n1 c1, .slice a2 n2 c2, .int .i64 tp, .slice a3 n3 c3, .slice a4 n4 c4] := by rw [HW.out]; exact (Blk.new w _ _).alloc _
  have BS : Blk wa (w.heap.size + 1) 74 [.int .i64 x, .int .i64 y, .slice b1 m1 d1, .slice b2 m2 d2] := by
    have := Blk.new (w.alloc (.cells #[.int .i64 wd, .slice a1 n1 c1, .slice a2 n2 c2, .int .i64 tp, .slice a3 n3 c3, .slice a4 n4 c4] 28)) 74 [.int .i64 x, .int .i64 y, .slice b1 m1 d1, .slice b2 m2 d2]
    rw [HW.out]
    simpa using this
  have HB : Below w.heap.size w wa := by rw [HW.out]; exact ((Below.refl _ _).alloc (Nat.le_refl _) _).alloc (by simp) _
  have HBF := Lib.hid HB
  have g0 := lat_cell B.lt (B.cell (j := 0) rfl)
  have g1 := lat_cell B.lt (B.cell (j := 1) rfl)
  have g2 := lat_cell B.lt (B.cell (j := 2) rfl)
  have g3 := lat_cell B.lt (B.cell (j := 3) rfl)
  have g4 := lat_cell B.lt (B.cell (j := 4) rfl)
  have g5 := lat_cell B.lt (B.cell (j := 5) rfl)
  have f0 := lat_cell BS.lt (BS.cell (j := 0) rfl)
  have f1 := lat_cell BS.lt (BS.cell (j := 1) rfl)
  have f2 := lat_cell BS.lt (BS.cell (j := 2) rfl)
  have f3 := lat_cell BS.lt (BS.cell (j := 3) rfl)
  have HC1 : Hid (∀ q : Lat wa, Calls Tryz.prog 111 #[.agg #[.int .i64 wd, .slice a1 n1 c1, .slice a2 n2 c2, .int .i64 tp, .slice a3 n3 c3, .slice a4 n4 c4], .slice b1 m1 d1] q.wd fun e w' => e = .returned (.bool ma) ∧ Below q.wd.heap.size q.wd w') := Lib.hid (fun q => HMA.out q.wd (HBF.out.trans (q.ok.mono HBF.out.size)))
  have HC2 : Hid (∀ q : Lat wa, Calls Tryz.prog 111 #[.agg #[.int .i64 wd, .slice a1 n1 c1, .slice a2 n2 c2, .int .i64 tp, .slice a3 n3 c3, .slice a4 n4 c4], .slice b2 m2 d2] q.wd fun e w' => e = .returned (.bool me) ∧ Below q.wd.heap.size q.wd w') := Lib.hid (fun q => HME.out q.wd (HBF.out.trans (q.ok.mono HBF.out.size)))
  clear HMA HME B BS HB
  have tail : ∀ (b : Bool), Hid (b = b) := fun b => Lib.hid rfl
  clear tail
  cases ma with
  | true =>
    clear HKN
    go_enter Tryz.func58, Tryz.ntmps58
    go_wp2_with fail
    rw [← HW.out]
    refine wp_region_lat (by kernel_rfl) (by kernel_rfl) ?_
    repeat (go_big_quiet_step ((go_at_call 111; first | with_reducible exact lat_calls (HC1.out _) | with_reducible exact lat_calls (HC2.out _))))
    refine wpQuiet_nil ?_
    intro _ hw'
    obtain ⟨⟨wq, hwq⟩, hw''⟩ := hw'
    subst hw''
    have HF := Lib.hid (HBF.out.trans (hwq.mono HBF.out.size))
    clear g0 g1 g2 g3 g4 g5 f0 f1 f2 f3 HC1 HC2 hwq
    go_wp2
    go_ret
    exact ⟨rfl, HF.out⟩
  | false =>
    cases me with
    | true =>
      clear HKN
      go_enter Tryz.func58, Tryz.ntmps58
      go_wp2_with fail
      rw [← HW.out]
      refine wp_region_lat (by kernel_rfl) (by kernel_rfl) ?_
      repeat (go_big_quiet_step ((go_at_call 111; first | with_reducible exact lat_calls (HC1.out _) | with_reducible exact lat_calls (HC2.out _))))
      refine wpQuiet_nil ?_
      intro _ hw'
      obtain ⟨⟨wq, hwq⟩, hw''⟩ := hw'
      subst hw''
      have HF := Lib.hid (HBF.out.trans (hwq.mono HBF.out.size))
      clear g0 g1 g2 g3 g4 g5 f0 f1 f2 f3 HC1 HC2 hwq
      go_wp2
      go_ret
      exact ⟨rfl, HF.out⟩
    | false =>
      by_cases hx : x = 1
      · obtain ⟨b, o, j, z, rfl, hj, hae, hb, hzz, hc, hkn⟩ := HKN.out hx
        simp only [] at hj hae
        subst hae
        have HR : Hid ((false || false || (decide (x = 1) && !knownB ts (p.arrays.getD ((j : Nat) : Int).toNat 0) false)) = !knownB ts z false) := Lib.hid (by rw [decide_eq_true hx, hzz.out]; rfl)
        rw [HR.out]
        obtain ⟨kn, HK⟩ : ∃ kn, Hid (knownB ts z false = kn) := ⟨_, rfl⟩
        rw [HK.out] at hkn ⊢
        have HC3 : Hid (∀ q : Lat wa, Calls Tryz.prog 112 #[.slice b1 m1 d1, .int .i64 z, .bool false] q.wd fun e w' => e = .returned (.bool kn) ∧ Below q.wd.heap.size q.wd w') := Lib.hid (fun q => hkn q.wd (HBF.out.trans (q.ok.mono HBF.out.size)))
        have ga := lat_cell (Nat.lt_of_lt_of_le hb HBF.out.size) ((HBF.out.cell hb).trans hc)
        rw [hx] at f0
        clear HR HK hkn hzz hc HKN hx
        go_enter Tryz.func58, Tryz.ntmps58
        go_wp2_with fail
        rw [← HW.out]
        refine wp_region_lat (by kernel_rfl) (by kernel_rfl) ?_
        repeat (go_big_quiet_step (first | (go_at_call 112; exact lat_calls (HC3.out _)) | (go_at_call 111; first | with_reducible exact lat_calls (HC1.out _) | with_reducible exact lat_calls (HC2.out _))))
        refine wpQuiet_nil ?_
        intro _ hw'
        obtain ⟨⟨wq, hwq⟩, hw''⟩ := hw'
        subst hw''
        have HF := Lib.hid (HBF.out.trans (hwq.mono HBF.out.size))
        clear g0 g1 g2 g3 g4 g5 f0 f1 f2 f3 HC1 HC2 HC3 hwq ga
        go_wp2
        go_ret
        exact ⟨rfl, HF.out⟩
      · have HR : Hid ((false || false || (decide (x = 1) && !knownB ts (p.arrays.getD y.toNat 0) false)) = false) := Lib.hid (by rw [decide_eq_false hx]; rfl)
        rw [HR.out]
        have HXN : (x == 1) = false := by simpa using hx
        clear HR hx HKN
        go_enter Tryz.func58, Tryz.ntmps58
        go_wp2_with fail
        rw [← HW.out]
        refine wp_region_lat (by kernel_rfl) (by kernel_rfl) ?_
        repeat (go_big_quiet_step ((go_at_call 111; first | with_reducible exact lat_calls (HC1.out _) | with_reducible exact lat_calls (HC2.out _))))
        refine wpQuiet_nil ?_
        intro _ hw'
        obtain ⟨⟨wq, hwq⟩, hw''⟩ := hw'
        subst hw''
        have HF := Lib.hid (HBF.out.trans (hwq.mono HBF.out.size))
        clear g0 g1 g2 g3 g4 g5 f0 f1 f2 f3 HC1 HC2 hwq
        go_wp2
        go_ret
        exact ⟨rfl, HF.out⟩
end Go.Proofs.YtbnpoliogldohaaGreat
/- The contracts of the model's l10Add and l10Counts (written by tools/gen_specneed1.py). -/
namespace Go.Proofs.YtbnpoliogldohaaGreat
open Go.RowKit

theorem withI_room (l : List Int) (z : Int) : (withI l z).length ≤ l.length + 1 ∧ 0 < (withI l z).length := by
  have hp : ∀ l : List Int, (putI z l).length = l.length + 1 := fun l => by
    induction l with
    | nil => rfl
    | cons x r ih => simp only [putI]; split <;> simp [ih]
  unfold withI
  split
  · next h => exact ⟨by omega, List.length_pos_of_mem h⟩
  · rw [hp]; omega
theorem addL_len : ∀ (more l : List Int), (addL l more).length ≤ l.length + more.length
  | [], l => by simp [addL]
  | m :: more, l => by
    have h1 := (withI_room l m).1
    have h2 := addL_len more (withI l m)
    rw [show addL l (m :: more) = addL (withI l m) more from rfl]
    simp only [List.length_cons]
    omega
theorem addL_take {l more : List Int} {k : Nat} {z : Int} (hk : k < more.length) (hz : Hid (z = more.getD k 0)) : addL l (more.take (k + 1)) = withI (addL l (more.take k)) z := by
  rw [take_at hk hz, addL_app]; rfl
/-- What an l10Add leaves. -/
def Added (w : World) (zs : List Int) (e : Ending) (w' : World) : Prop := ∃ g n c, e = .returned (.slice (some ⟨g, 0, none⟩) n c) ∧ Ints w' (some ⟨g, 0, none⟩) n zs ∧ g < w'.heap.size ∧ Below w.heap.size w w'
set_option maxRecDepth 100000 in
set_option maxHeartbeats 1600000 in
theorem l10Add_any (g n c : Nat) (l : List Int) (b : Option Addr) (m d : Nat) (zs : List Int) (w : World) (h : Ints w (some ⟨g, 0, none⟩) n l) (hg : g < w.heap.size) (hm : Ints w b m zs) (hle : n + m ≤ 3000) :
    Calls Tryz.prog 110 #[.slice (some ⟨g, 0, none⟩) n c, .slice b m d] w (Added w (addL l zs)) := by
  have HM := Lib.hid (fun w' (hw : Below w.heap.size w w') => hm.below hw)
  have HL := Lib.hid hm.1
  have HN := Lib.hid h.1
  have HH := Lib.hid h
  clear h hm
  go_enter Tryz.func110, Tryz.ntmps110
  go_wp2
  go_loopw [0, 5] (fun s i wr => ∃ (k g' n' c' : Nat), k ≤ m ∧ i = .int .i64 (k : Int) ∧ s = .slice (some ⟨g', 0, none⟩) n' c' ∧ Ints wr (some ⟨g', 0, none⟩) n' (addL l (zs.take k)) ∧ g' < wr.heap.size ∧ n' ≤ n + k ∧ Below w.heap.size w wr) (fun _ i _ => m - (intOf i).toNat)
  case atStart => exact ⟨0, g, n, c, Nat.zero_le _, rfl, rfl, HH.out, hg, by omega, Below.refl _ _⟩
  case round =>
    obtain ⟨k, g', n', c', hk, rfl, rfl, hI, hg', hn', hb⟩ := hrel
    by_cases hlt : k < m
    · obtain ⟨bb, o, z, rfl, hbb, hz, hin, hc⟩ := (HM.out wr hb).at_ hlt
      have HII := Lib.hid hI
      have HBW := Lib.hid hb
      have HAD : Hid (addL l (zs.take (k + 1)) = withI (addL l (zs.take k)) z) := Lib.hid (addL_take (by rw [HL.out]; exact hlt) hz)
      obtain ⟨q, HQ⟩ : ∃ q, Hid (addL l (zs.take k) = q) := ⟨_, rfl⟩
      rw [HQ.out] at HII HAD
      clear hI hb hz
      go_wp2_with fail
      refine (l2With_any g' n' c' q z _ HII.out hg' hin (by omega)).mono ?_
      rintro e w1 ⟨a, nn, cc, rfl, ho, hb1⟩
      have hl1 := withI_room q z
      have hln := ho.len
      have hq := HII.out.1
      obtain ⟨ng, rfl⟩ : ∃ ng, a = some ⟨ng, 0, none⟩ := by
        rcases ho.1.2 with ⟨_, h0⟩ | ⟨ng, cap, cur, e, _⟩
        · omega
        · exact ⟨ng, by injection e⟩
      have HO : Hid (Ints w1 (some ⟨ng, 0, none⟩) nn (addL l (zs.take (k + 1)))) := Lib.hid (by rw [HAD.out]; exact ho.ints)
      have hng := (ho.block ng rfl).2
      have HB1 := Lib.hid (HBW.out.trans (hb1.mono HBW.out.size))
      have hnn : nn ≤ n + (k + 1) := by omega
      clear hb1 hq hl1 hln ho
      go_wp2
      go_roundw
      case rel => exact ⟨k + 1, ng, nn, cc, by omega, by go_num, rfl, HO.out, hng, hnn, HB1.out⟩
      case measure => simp [intOf]; omega
    · obtain rfl : m = k := by omega
      have HF : Hid (addL l (zs.take m) = addL l zs) := Lib.hid (by rw [List.take_of_length_le (by rw [HL.out]; exact Nat.le_refl _)])
      rw [HF.out] at hI
      have HBW := Lib.hid hb
      clear hb
      go_wp2
      go_ret
      exact ⟨g', n', c', rfl, hI, hg', HBW.out⟩
set_option maxRecDepth 100000 in
set_option maxHeartbeats 3200000 in
theorem counts_set (r : PRow) (p : Prg) (y : Int) (b1 b2 : Option Addr) (m1 m2 d1 d2 : Nat) (ts us : List Tm) (va aa : Option Addr) (vn vc an ac : Nat) (V A : List Int) (w : World) (h : ProgAt w r p) (hz : codeB p = 0) (hs : RightS p ⟨0, y, ts, us⟩) (h1 : Terms w b1 m1 ts) (h2 : Terms w b2 m2 us) (hd1 : m1 ≤ d1) (hd2 : m2 ≤ d2) (hV : Ints w va vn V) (_hA : Ints w aa an A) :
    Calls Tryz.prog 108 #[progV r, .agg #[.int .i64 0, .int .i64 y, .slice b1 m1 d1, .slice b2 m2 d2], .slice va vn vc, .slice aa an ac] w fun e w' => e = .returned (.bool (cntB p ⟨0, y, ts, us⟩ V A)) ∧ Below w.heap.size w w' := by
  have HMY : Hid (∀ w', Below w.heap.size w w' → Calls Tryz.prog 58 #[progV r, .agg #[.int .i64 0, .int .i64 y, .slice b1 m1 d1, .slice b2 m2 d2]] w' fun e w'' => e = .returned (.bool (mayStm p ⟨0, y, ts, us⟩)) ∧ Below w'.heap.size w' w'') := Lib.hid (fun w' hw => l9Stmt_any r p 0 y b1 b2 m1 m2 d1 d2 ts us w' (h.below hw) hz hs (h1.below (Nat.le_refl _) hw) (h2.below (Nat.le_refl _) hw) hd1 hd2)
  have HIN : Hid (∀ w', Below w.heap.size w w' → Calls Tryz.prog 59 #[.slice va vn vc, .int .i64 y] w' fun e w'' => e = .returned (.bool (decide (y ∈ V))) ∧ w' = w'') := Lib.hid (fun w' hw => l2In_any _ _ _ V y w' (hV.below hw))
  have HSQ : Hid (cntB p ⟨0, y, ts, us⟩ V A = (mayStm p ⟨0, y, ts, us⟩ || decide (y ∈ V))) := Lib.hid (by simp [cntB])
  obtain ⟨mx, HM⟩ : ∃ mx, Hid (mayStm p ⟨0, y, ts, us⟩ = mx) := ⟨_, rfl⟩
  obtain ⟨q, HQ⟩ : ∃ q, Hid (decide (y ∈ V) = q) := ⟨_, rfl⟩
  rw [HM.out, HQ.out] at HSQ
  rw [HM.out] at HMY
  rw [HQ.out] at HIN
  rw [HSQ.out]
  clear HM HSQ HQ
  obtain ⟨wd, ⟨a1, n1, c1⟩, ⟨a2, n2, c2⟩, tp, ⟨a3, n3, c3⟩, ⟨a4, n4, c4⟩, rows⟩ := r
  clear h hz hs h1 h2 hd1 hd2 hV
  show Calls Tryz.prog 108 #[.agg #[.int .i64 wd, .slice a1 n1 c1, .slice a2 n2 c2, .int .i64 tp, .slice a3 n3 c3, .slice a4 n4 c4], .agg #[.int .i64 0, .int .i64 y, .slice b1 m1 d1, .slice b2 m2 d2], .slice va vn vc, .slice aa an ac] w _
  obtain ⟨wa, HW⟩ : ∃ wa, Hid (wa = (w.alloc (.cells #[.int .i64 wd, .slice a1 n1 c1, .slice a2 n2 c2, .int .i64 tp, .slice a3 n3 c3, .slice a4 n4 c4] 28)).alloc (.cells #[.int .i64 0, .int .i64 y, .slice b1 m1 d1, .slice b2 m2 d2] 74)) := ⟨_, rfl⟩
  have HB : Below w.heap.size w wa := by rw [HW.out]; exact ((Below.refl _ _).alloc (Nat.le_refl _) _).alloc (by simp) _
  have HBF := Lib.hid HB
  clear HB
  have BS : Blk wa (w.heap.size + 1) 74 [.int .i64 0, .int .i64 y, .slice b1 m1 d1, .slice b2 m2 d2] := by
    have := Blk.new (w.alloc (.cells #[.int .i64 wd, .slice a1 n1 c1, .slice a2 n2 c2, .int .i64 tp, .slice a3 n3 c3, .slice a4 n4 c4] 28)) 74 [.int .i64 0, .int .i64 y, .slice b1 m1 d1, .slice b2 m2 d2]
    rw [HW.out]
    simpa using this
  have HBS := Lib.hid BS
  clear BS
  go_enter Tryz.func108, Tryz.ntmps108
  go_wp2_with fail
  rw [← HW.out]
  refine (HMY.out _ HBF.out).mono ?_
  rintro e w3 ⟨rfl, hb3⟩
  have HF := Lib.hid (HBF.out.trans (hb3.mono HBF.out.size))
  have S3 := HBS.out.below hb3 HBS.out.lt
  have s1 := S3.cell (j := 1) rfl
  clear hb3 S3
  cases mx with
  | true =>
    go_wp2
    go_ret
    exact ⟨rfl, HF.out⟩
  | false =>
    go_wp2_with fail
    refine (HIN.out _ HF.out).mono ?_
    rintro e w4 ⟨rfl, rfl⟩
    go_wp2
    go_ret
    exact ⟨rfl, HF.out⟩
set_option maxRecDepth 100000 in
set_option maxHeartbeats 3200000 in
theorem counts_put (r : PRow) (p : Prg) (y : Int) (b1 b2 : Option Addr) (m1 m2 d1 d2 : Nat) (ts us : List Tm) (va aa : Option Addr) (vn vc an ac : Nat) (V A : List Int) (w : World) (h : ProgAt w r p) (hz : codeB p = 0) (hs : RightS p ⟨1, y, ts, us⟩) (h1 : Terms w b1 m1 ts) (h2 : Terms w b2 m2 us) (hd1 : m1 ≤ d1) (hd2 : m2 ≤ d2) (_hV : Ints w va vn V) (hA : Ints w aa an A) :
    Calls Tryz.prog 108 #[progV r, .agg #[.int .i64 1, .int .i64 y, .slice b1 m1 d1, .slice b2 m2 d2], .slice va vn vc, .slice aa an ac] w fun e w' => e = .returned (.bool (cntB p ⟨1, y, ts, us⟩ V A)) ∧ Below w.heap.size w w' := by
  have HMY : Hid (∀ w', Below w.heap.size w w' → Calls Tryz.prog 58 #[progV r, .agg #[.int .i64 1, .int .i64 y, .slice b1 m1 d1, .slice b2 m2 d2]] w' fun e w'' => e = .returned (.bool (mayStm p ⟨1, y, ts, us⟩)) ∧ Below w'.heap.size w' w'') := Lib.hid (fun w' hw => l9Stmt_any r p 1 y b1 b2 m1 m2 d1 d2 ts us w' (h.below hw) hz hs (h1.below (Nat.le_refl _) hw) (h2.below (Nat.le_refl _) hw) hd1 hd2)
  have HIN : Hid (∀ w', Below w.heap.size w w' → Calls Tryz.prog 59 #[.slice aa an ac, .int .i64 y] w' fun e w'' => e = .returned (.bool (decide (y ∈ A))) ∧ w' = w'') := Lib.hid (fun w' hw => l2In_any _ _ _ A y w' (hA.below hw))
  have HSQ : Hid (cntB p ⟨1, y, ts, us⟩ V A = (mayStm p ⟨1, y, ts, us⟩ || decide (y ∈ A))) := Lib.hid (by simp [cntB])
  obtain ⟨mx, HM⟩ : ∃ mx, Hid (mayStm p ⟨1, y, ts, us⟩ = mx) := ⟨_, rfl⟩
  obtain ⟨q, HQ⟩ : ∃ q, Hid (decide (y ∈ A) = q) := ⟨_, rfl⟩
  rw [HM.out, HQ.out] at HSQ
  rw [HM.out] at HMY
  rw [HQ.out] at HIN
  rw [HSQ.out]
  clear HM HSQ HQ
  obtain ⟨wd, ⟨a1, n1, c1⟩, ⟨a2, n2, c2⟩, tp, ⟨a3, n3, c3⟩, ⟨a4, n4, c4⟩, rows⟩ := r
  clear h hz hs h1 h2 hd1 hd2 hA
  show Calls Tryz.prog 108 #[.agg #[.int .i64 wd, .slice a1 n1 c1, .slice a2 n2 c2, .int .i64 tp, .slice a3 n3 c3, .slice a4 n4 c4], .agg #[.int .i64 1, .int .i64 y, .slice b1 m1 d1, .slice b2 m2 d2], .slice va vn vc, .slice aa an ac] w _
  obtain ⟨wa, HW⟩ : ∃ wa, Hid (wa = (w.alloc (.cells #[.int .i64 wd, .slice a1 n1 c1, .slice a2 n2 c2, .int .i64 tp, .slice a3 n3 c3, .slice a4 n4 c4] 28)).alloc (.cells #[.int .i64 1, .int .i64 y, .slice b1 m1 d1, .slice b2 m2 d2] 74)) := ⟨_, rfl⟩
  have HB : Below w.heap.size w wa := by rw [HW.out]; exact ((Below.refl _ _).alloc (Nat.le_refl _) _).alloc (by simp) _
  have HBF := Lib.hid HB
  clear HB
  have BS : Blk wa (w.heap.size + 1) 74 [.int .i64 1, .int .i64 y, .slice b1 m1 d1, .slice b2 m2 d2] := by
    have := Blk.new (w.alloc (.cells #[.int .i64 wd, .slice a1 n1 c1, .slice a2 n2 c2, .int .i64 tp, .slice a3 n3 c3, .slice a4 n4 c4] 28)) 74 [.int .i64 1, .int .i64 y, .slice b1 m1 d1, .slice b2 m2 d2]
    rw [HW.out]
    simpa using this
  have HBS := Lib.hid BS
  clear BS
  go_enter Tryz.func108, Tryz.ntmps108
  go_wp2_with fail
  rw [← HW.out]
  refine (HMY.out _ HBF.out).mono ?_
  rintro e w3 ⟨rfl, hb3⟩
  have HF := Lib.hid (HBF.out.trans (hb3.mono HBF.out.size))
  have S3 := HBS.out.below hb3 HBS.out.lt
  have s1 := S3.cell (j := 1) rfl
  clear hb3 S3
  cases mx with
  | true =>
    go_wp2
    go_ret
    exact ⟨rfl, HF.out⟩
  | false =>
    go_wp2_with fail
    refine (HIN.out _ HF.out).mono ?_
    rintro e w4 ⟨rfl, rfl⟩
    go_wp2
    go_ret
    exact ⟨rfl, HF.out⟩
set_option maxRecDepth 100000 in
set_option maxHeartbeats 3200000 in
theorem counts_if (r : PRow) (p : Prg) (y : Int) (b1 b2 : Option Addr) (m1 m2 d1 d2 : Nat) (ts us : List Tm) (va aa : Option Addr) (vn vc an ac : Nat) (V A : List Int) (w : World) (h : ProgAt w r p) (_hz : codeB p = 0) (_hs : RightS p ⟨2, y, ts, us⟩) (_h1 : Terms w b1 m1 ts) (_h2 : Terms w b2 m2 us) (_hd1 : m1 ≤ d1) (_hd2 : m2 ≤ d2) (_hV : Ints w va vn V) (_hA : Ints w aa an A) :
    Calls Tryz.prog 108 #[progV r, .agg #[.int .i64 2, .int .i64 y, .slice b1 m1 d1, .slice b2 m2 d2], .slice va vn vc, .slice aa an ac] w fun e w' => e = .returned (.bool (cntB p ⟨2, y, ts, us⟩ V A)) ∧ Below w.heap.size w w' := by
  have HSQ : Hid (cntB p ⟨2, y, ts, us⟩ V A = true) := Lib.hid (by simp [cntB])
  rw [HSQ.out]
  clear HSQ
  obtain ⟨wd, ⟨a1, n1, c1⟩, ⟨a2, n2, c2⟩, tp, ⟨a3, n3, c3⟩, ⟨a4, n4, c4⟩, rows⟩ := r
  clear h
  show Calls Tryz.prog 108 #[.agg #[.int .i64 wd, .slice a1 n1 c1, .slice a2 n2 c2, .int .i64 tp, .slice a3 n3 c3, .slice a4 n4 c4], .agg #[.int .i64 2, .int .i64 y, .slice b1 m1 d1, .slice b2 m2 d2], .slice va vn vc, .slice aa an ac] w _
  obtain ⟨wa, HW⟩ : ∃ wa, Hid (wa = (w.alloc (.cells #[.int .i64 wd, .slice a1 n1 c1, .slice a2 n2 c2, .int .i64 tp, .slice a3 n3 c3, .slice a4 n4 c4] 28)).alloc (.cells #[.int .i64 2, .int .i64 y, .slice b1 m1 d1, .slice b2 m2 d2] 74)) := ⟨_, rfl⟩
  have HB : Below w.heap.size w wa := by rw [HW.out]; exact ((Below.refl _ _).alloc (Nat.le_refl _) _).alloc (by simp) _
  have HBF := Lib.hid HB
  clear HB
  go_enter Tryz.func108, Tryz.ntmps108
  go_wp2_with fail
  go_ret
  exact ⟨rfl, by rw [← HW.out]; exact HBF.out⟩
set_option maxRecDepth 100000 in
set_option maxHeartbeats 3200000 in
theorem counts_out (r : PRow) (p : Prg) (y : Int) (b1 b2 : Option Addr) (m1 m2 d1 d2 : Nat) (ts us : List Tm) (va aa : Option Addr) (vn vc an ac : Nat) (V A : List Int) (w : World) (h : ProgAt w r p) (_hz : codeB p = 0) (_hs : RightS p ⟨6, y, ts, us⟩) (_h1 : Terms w b1 m1 ts) (_h2 : Terms w b2 m2 us) (_hd1 : m1 ≤ d1) (_hd2 : m2 ≤ d2) (_hV : Ints w va vn V) (_hA : Ints w aa an A) :
    Calls Tryz.prog 108 #[progV r, .agg #[.int .i64 6, .int .i64 y, .slice b1 m1 d1, .slice b2 m2 d2], .slice va vn vc, .slice aa an ac] w fun e w' => e = .returned (.bool (cntB p ⟨6, y, ts, us⟩ V A)) ∧ Below w.heap.size w w' := by
  have HSQ : Hid (cntB p ⟨6, y, ts, us⟩ V A = true) := Lib.hid (by simp [cntB])
  rw [HSQ.out]
  clear HSQ
  obtain ⟨wd, ⟨a1, n1, c1⟩, ⟨a2, n2, c2⟩, tp, ⟨a3, n3, c3⟩, ⟨a4, n4, c4⟩, rows⟩ := r
  clear h
  show Calls Tryz.prog 108 #[.agg #[.int .i64 wd, .slice a1 n1 c1, .slice a2 n2 c2, .int .i64 tp, .slice a3 n3 c3, .slice a4 n4 c4], .agg #[.int .i64 6, .int .i64 y, .slice b1 m1 d1, .slice b2 m2 d2], .slice va vn vc, .slice aa an ac] w _
  obtain ⟨wa, HW⟩ : ∃ wa, Hid (wa = (w.alloc (.cells #[.int .i64 wd, .slice a1 n1 c1, .slice a2 n2 c2, .int .i64 tp, .slice a3 n3 c3, .slice a4 n4 c4] 28)).alloc (.cells #[.int .i64 6, .int .i64 y, .slice b1 m1 d1, .slice b2 m2 d2] 74)) := ⟨_, rfl⟩
  have HB : Below w.heap.size w wa := by rw [HW.out]; exact ((Below.refl _ _).alloc (Nat.le_refl _) _).alloc (by simp) _
  have HBF := Lib.hid HB
  clear HB
  go_enter Tryz.func108, Tryz.ntmps108
  go_wp2_with fail
  go_ret
  exact ⟨rfl, by rw [← HW.out]; exact HBF.out⟩
set_option maxRecDepth 100000 in
set_option maxHeartbeats 3200000 in
theorem counts_oth (r : PRow) (p : Prg) (x : Int) (y : Int) (b1 b2 : Option Addr) (m1 m2 d1 d2 : Nat) (ts us : List Tm) (va aa : Option Addr) (vn vc an ac : Nat) (V A : List Int) (w : World) (h : ProgAt w r p) (_hz : codeB p = 0) (_hs : RightS p ⟨x, y, ts, us⟩) (_h1 : Terms w b1 m1 ts) (_h2 : Terms w b2 m2 us) (_hd1 : m1 ≤ d1) (_hd2 : m2 ≤ d2) (_hV : Ints w va vn V) (_hA : Ints w aa an A) (hx0 : x ≠ 0) (hx1 : x ≠ 1) (hx2 : ¬ (x = 2 ∨ x = 6)) :
    Calls Tryz.prog 108 #[progV r, .agg #[.int .i64 x, .int .i64 y, .slice b1 m1 d1, .slice b2 m2 d2], .slice va vn vc, .slice aa an ac] w fun e w' => e = .returned (.bool (cntB p ⟨x, y, ts, us⟩ V A)) ∧ Below w.heap.size w w' := by
  have HSQ : Hid (cntB p ⟨x, y, ts, us⟩ V A = false) := Lib.hid (by unfold cntB; rw [if_neg hx2, if_neg hx0, if_neg hx1])
  rw [HSQ.out]
  clear HSQ
  have HX0 : (x == 0) = false := by simpa using hx0
  have HX1 : (x == 1) = false := by simpa using hx1
  have HX2 : (x == 2) = false := by simpa using fun e => hx2 (.inl e)
  have HX6 : (x == 6) = false := by simpa using fun e => hx2 (.inr e)
  clear hx0 hx1 hx2
  obtain ⟨wd, ⟨a1, n1, c1⟩, ⟨a2, n2, c2⟩, tp, ⟨a3, n3, c3⟩, ⟨a4, n4, c4⟩, rows⟩ := r
  clear h
  show Calls Tryz.prog 108 #[.agg #[.int .i64 wd, .slice a1 n1 c1, .slice a2 n2 c2, .int .i64 tp, .slice a3 n3 c3, .slice a4 n4 c4], .agg #[.int .i64 x, .int .i64 y, .slice b1 m1 d1, .slice b2 m2 d2], .slice va vn vc, .slice aa an ac] w _
  obtain ⟨wa, HW⟩ : ∃ wa, Hid (wa = (w.alloc (.cells #[.int .i64 wd, .slice a1 n1 c1, .slice a2 n2 c2, .int .i64 tp, .slice a3 n3 c3, .slice a4 n4 c4] 28)).alloc (.cells #[.int .i64 x, .int .i64 y, .slice b1 m1 d1, .slice b2 m2 d2] 74)) := ⟨_, rfl⟩
  have HB : Below w.heap.size w wa := by rw [HW.out]; exact ((Below.refl _ _).alloc (Nat.le_refl _) _).alloc (by simp) _
  have HBF := Lib.hid HB
  clear HB
  go_enter Tryz.func108, Tryz.ntmps108
  go_wp2_with fail
  go_ret
  exact ⟨rfl, by rw [← HW.out]; exact HBF.out⟩
theorem l10Counts_any (r : PRow) (p : Prg) (x : Int) (y : Int) (b1 b2 : Option Addr) (m1 m2 d1 d2 : Nat) (ts us : List Tm) (va aa : Option Addr) (vn vc an ac : Nat) (V A : List Int) (w : World) (h : ProgAt w r p) (hz : codeB p = 0) (hs : RightS p ⟨x, y, ts, us⟩) (h1 : Terms w b1 m1 ts) (h2 : Terms w b2 m2 us) (hd1 : m1 ≤ d1) (hd2 : m2 ≤ d2) (hV : Ints w va vn V) (hA : Ints w aa an A) :
    Calls Tryz.prog 108 #[progV r, .agg #[.int .i64 x, .int .i64 y, .slice b1 m1 d1, .slice b2 m2 d2], .slice va vn vc, .slice aa an ac] w fun e w' => e = .returned (.bool (cntB p ⟨x, y, ts, us⟩ V A)) ∧ Below w.heap.size w w' := by
  by_cases e0 : x = 0
  · subst e0; exact counts_set r p y b1 b2 m1 m2 d1 d2 ts us va aa vn vc an ac V A w h hz hs h1 h2 hd1 hd2 hV hA
  by_cases e1 : x = 1
  · subst e1; exact counts_put r p y b1 b2 m1 m2 d1 d2 ts us va aa vn vc an ac V A w h hz hs h1 h2 hd1 hd2 hV hA
  by_cases e2 : x = 2
  · subst e2; exact counts_if r p y b1 b2 m1 m2 d1 d2 ts us va aa vn vc an ac V A w h hz hs h1 h2 hd1 hd2 hV hA
  by_cases e6 : x = 6
  · subst e6; exact counts_out r p y b1 b2 m1 m2 d1 d2 ts us va aa vn vc an ac V A w h hz hs h1 h2 hd1 hd2 hV hA
  exact counts_oth r p x y b1 b2 m1 m2 d1 d2 ts us va aa vn vc an ac V A w h hz hs h1 h2 hd1 hd2 hV hA e0 e1 (fun e => e.elim e2 e6)
end Go.Proofs.YtbnpoliogldohaaGreat
/- The contracts of the model's l10Needed and NeededIn. -/
namespace Go.Proofs.YtbnpoliogldohaaGreat
open Go.RowKit

/-- What is needed after k rounds and j statements. -/
def stQ (p : Prg) (k j : Nat) : List Int × List Int := roundN (cntB p) nm1 nm2 (p.body.take j) (itN (cntB p) nm1 nm2 p.body k)
theorem stQ_zero (p : Prg) (k : Nat) : stQ p k 0 = itN (cntB p) nm1 nm2 p.body k := by simp [stQ, roundN]
theorem stQ_len (p : Prg) (k : Nat) : stQ p k p.body.length = itN (cntB p) nm1 nm2 p.body (k + 1) := by rw [stQ, List.take_length]; rfl
theorem stQ_succ {p : Prg} {k j : Nat} (h : j < p.body.length) : stQ p k (j + 1) = stepN (cntB p) nm1 nm2 (stQ p k j) (stAt p.body j) := by
  have e : p.body.take (j + 1) = p.body.take j ++ [stAt p.body j] := by
    rw [List.take_add_one, List.getElem?_eq_getElem h]
    simp [stAt, List.getD_eq_getElem?_getD, h]
  unfold stQ roundN
  rw [e, List.foldl_append]
  rfl
theorem stQ_rise (p : Prg) (k j : Nat) : RiseQ (stQ p k j) := round_rise (itN_rise _ _)
theorem few_len {l : List Int} {u : Nat} (hr : Rise l) (h : ∀ x ∈ l, 0 ≤ x ∧ x < (u : Int)) : l.length ≤ u := by
  have := rise_len (a := 0) (u := (u : Int)) hr h
  omega
theorem stQ_small {p : Prg} (hz : codeB p = 0) (k j : Nat) : (stQ p k j).1.length ≤ 20 ∧ (stQ p k j).2.length ≤ 20 := by
  have hb := need_bounds hz
  have hc := code_head hz
  have hall : Closed (cntB p) nm1 nm2 p.body ((List.range (p.lows.length + p.secrets.length + p.temps.toNat)).map Int.ofNat) ((List.range p.arrays.length).map Int.ofNat) := fun s hs _ => by
    refine ⟨fun x hx => ?_, fun x hx => ?_⟩
    · have := (hb s hs).1 x hx
      exact List.mem_map.2 ⟨x.toNat, by simp; omega, by simp; omega⟩
    · have := (hb s hs).2 x hx
      exact List.mem_map.2 ⟨x.toNat, by simp; omega, by simp; omega⟩
  have hi := fold_in (cntB_mono p) hall (body := p.body.take j) (fun s hs => List.mem_of_mem_take hs) (itN_rise (cnt := cntB p) (n1 := nm1) (n2 := nm2) p.body k) (itN_in (cntB_mono p) hall k)
  have hr := stQ_rise p k j
  have a1 := few_len (u := p.lows.length + p.secrets.length + p.temps.toNat) hr.1 (fun x hx => by
    have := hi.1 x hx; simp at this; obtain ⟨i, hi, rfl⟩ := this; omega)
  have a2 := few_len (u := p.arrays.length) hr.2 (fun x hx => by
    have := hi.2 x hx; simp at this; obtain ⟨i, hi, rfl⟩ := this; omega)
  omega
theorem nmB_rise (op : Int) (ts : List Tm) : Rise (nmB op ts) := by
  unfold nmB
  split
  · exact (riseL_is _).1
  · exact List.Pairwise.nil
theorem nmB_few {p : Prg} (hz : codeB p = 0) {ts : List Tm} (h : standQ p ts = true ∨ ts = []) : (nmB 1 ts).length ≤ 20 ∧ (nmB 2 ts).length ≤ 20 := by
  have hb := nmB_stand h
  have hc := code_head hz
  have a1 := few_len (nmB_rise 1 ts) hb.1
  have a2 := few_len (nmB_rise 2 ts) hb.2
  omega
theorem stQ_yes {p : Prg} {k j : Nat} {s : Stm} (h : j < p.body.length) (hs : Hid (stAt p.body j = s)) (hc : cntB p s (stQ p k j).1 (stQ p k j).2 = true) : stQ p k (j + 1) = (addL (addL (stQ p k j).1 (nmB 1 s.at_)) (nmB 1 s.exp), addL (addL (stQ p k j).2 (nmB 2 s.at_)) (nmB 2 s.exp)) := by
  rw [stQ_succ h, hs.out, stepN, if_pos hc, nm1, nm2, addL_app, addL_app]
theorem stQ_no {p : Prg} {k j : Nat} {s : Stm} (h : j < p.body.length) (hs : Hid (stAt p.body j = s)) (hc : cntB p s (stQ p k j).1 (stQ p k j).2 = false) : stQ p k (j + 1) = stQ p k j := by
  rw [stQ_succ h, hs.out, stepN, if_neg (by rw [hc]; decide)]
theorem ints_none (w : World) (g : Nat) : Ints w (some ⟨g, 0, none⟩) 0 [] := ⟨rfl, by omega, fun z hz => (by cases hz), fun h => (by omega)⟩
set_option maxRecDepth 100000 in
set_option maxHeartbeats 12800000 in
theorem l10Needed_any (r : PRow) (p : Prg) (w : World) (h : ProgAt w r p) (hcap : Caps r) (hz : codeB p = 0) :
    Calls Tryz.prog 56 #[progV r] w fun e w' => ∃ g1 m1 d1 g2 m2 d2, e = .returned (.tuple #[.slice (some ⟨g1, 0, none⟩) m1 d1, .slice (some ⟨g2, 0, none⟩) m2 d2]) ∧ Ints w' (some ⟨g1, 0, none⟩) m1 (needP p).1 ∧ Ints w' (some ⟨g2, 0, none⟩) m2 (needP p).2 ∧ Below w.heap.size w w' := by
  have hlim := code_lim h hz
  have hch := code_head hz
  have HLV : Hid (∀ w', Calls Tryz.prog 82 #[progV r] w' fun e w'' => e = .returned (.int .i64 ((p.lows.length + p.secrets.length + p.temps.toNat : Nat) : Int)) ∧ Below w'.heap.size w' w'') := Lib.hid (fun w' => by
    have e : ((r.lows.2.1 : Int) + (r.secrets.2.1 : Int) + r.temps) = ((p.lows.length + p.secrets.length + p.temps.toNat : Nat) : Int) := by
      have := h.lows.1; have := h.secrets.1; have := h.temps; omega
    rw [← e]
    exact l3Vars_any r w' (by have := h.lows.1; omega) (by have := h.secrets.1; omega) (by have := h.temps; omega) (by have := h.temps; omega))
  have HCN : Hid (∀ (x y : Int) (b1 b2 va aa : Option Addr) (m1 m2 d1 d2 vn vc an ac : Nat) (ts us : List Tm) (V A : List Int) (w' : World), Below w.heap.size w w' → RightS p ⟨x, y, ts, us⟩ → Terms w' b1 m1 ts → Terms w' b2 m2 us → m1 ≤ d1 → m2 ≤ d2 → Ints w' va vn V → Ints w' aa an A →
      Calls Tryz.prog 108 #[progV r, .agg #[.int .i64 x, .int .i64 y, .slice b1 m1 d1, .slice b2 m2 d2], .slice va vn vc, .slice aa an ac] w' fun e w'' => e = .returned (.bool (cntB p ⟨x, y, ts, us⟩ V A)) ∧ Below w'.heap.size w' w'') :=
    Lib.hid (fun x y b1 b2 va aa m1 m2 d1 d2 vn vc an ac ts us V A w' hw hs h1 h2 hd1 hd2 hV hA => l10Counts_any r p x y b1 b2 m1 m2 d1 d2 ts us va aa vn vc an ac V A w' (h.below hw) hz hs h1 h2 hd1 hd2 hV hA)
  have HRW : Hid (∀ k, k < p.body.length → ∃ b o x y ba m1 d1 bb m2 d2 ts us, r.body.1 = some ⟨b, o, none⟩ ∧ b < w.heap.size ∧ Hid (stAt p.body k = ⟨x, y, ts, us⟩) ∧ w.cell? ⟨b, o + k * 4, none⟩ = some (.int .i64 x) ∧ w.cell? ⟨b, o + k * 4 + 1, none⟩ = some (.int .i64 y) ∧ w.cell? ⟨b, o + k * 4 + 2, none⟩ = some (.slice ba m1 d1) ∧ w.cell? ⟨b, o + k * 4 + 3, none⟩ = some (.slice bb m2 d2) ∧ m1 ≤ d1 ∧ m2 ≤ d2 ∧ Terms w ba m1 ts ∧ Terms w bb m2 us) := Lib.hid (fun k hk => stmt_row h hcap hk)
  have HZ := Lib.hid hz
  have HL := Lib.hid h.body.2.1
  have HLA := Lib.hid h.arrays.1
  have hn4 := h.body.2.2.1
  have hn4' : r.body.2.1 ≤ 40 := by have := HL.out; omega
  obtain ⟨U, HU⟩ : ∃ U, Hid (p.lows.length + p.secrets.length + p.temps.toNat = U) := ⟨_, rfl⟩
  rw [HU.out] at HLV
  have hU : U ≤ 20 := by have := HU.out; omega
  have HNP : Hid (needP p = itN (cntB p) nm1 nm2 p.body (U + p.arrays.length + 1)) := Lib.hid (by rw [needP, HU.out])
  obtain ⟨wd, ⟨a1, n1, c1⟩, ⟨a2, n2, c2⟩, tp, ⟨a3, n3, c3⟩, ⟨a4, n4, c4⟩, rows⟩ := r
  simp only [] at HRW HL HLA hn4 hn4'
  rw [HLA.out] at HNP
  have hn3 : n3 ≤ 2 := by have := HLA.out; omega
  clear h hcap hz hlim hch HU
  show Calls Tryz.prog 56 #[.agg #[.int .i64 wd, .slice a1 n1 c1, .slice a2 n2 c2, .int .i64 tp, .slice a3 n3 c3, .slice a4 n4 c4]] w _
  obtain ⟨wa, HW⟩ : ∃ wa, Hid (wa = ((w.alloc (.cells #[.int .i64 wd, .slice a1 n1 c1, .slice a2 n2 c2, .int .i64 tp, .slice a3 n3 c3, .slice a4 n4 c4] 28)).alloc (.cells #[] 2)).alloc (.cells #[] 2)) := ⟨_, rfl⟩
  have B : Blk wa w.heap.size 28 [.int .i64 wd, .slice a1 n1 c1, .slice a2 n2 c2, .int .i64 tp, .slice a3 n3 c3, .slice a4 n4 c4] := by rw [HW.out]; exact ((Blk.new w _ _).alloc _).alloc _
  have HB : Below w.heap.size w wa := by rw [HW.out]; exact (((Below.refl _ _).alloc (Nat.le_refl _) _).alloc (by simp) _).alloc (by simp; omega) _
  have hsza : wa.heap.size = w.heap.size + 3 := by rw [HW.out]; simp
  go_enter Tryz.func56, Tryz.ntmps56
  go_wp2
  rw [← HW.out]
  have HST : Hid (w.heap.size + 2 < wa.heap.size) := Lib.hid (by omega)
  clear hsza
  go_loopw [4, 5, 6] (fun vv av kv wr => ∃ (k g1 m1 d1 g2 m2 d2 : Nat), k ≤ U + n3 + 1 ∧ kv = .int .i64 (k : Int) ∧ vv = .slice (some ⟨g1, 0, none⟩) m1 d1 ∧ av = .slice (some ⟨g2, 0, none⟩) m2 d2 ∧ Ints wr (some ⟨g1, 0, none⟩) m1 (itN (cntB p) nm1 nm2 p.body k).1 ∧ g1 < wr.heap.size ∧ Ints wr (some ⟨g2, 0, none⟩) m2 (itN (cntB p) nm1 nm2 p.body k).2 ∧ g2 < wr.heap.size ∧
      Blk wr w.heap.size 28 [.int .i64 wd, .slice a1 n1 c1, .slice a2 n2 c2, .int .i64 tp, .slice a3 n3 c3, .slice a4 n4 c4] ∧ Below w.heap.size w wr) (fun _ _ kv _ => U + n3 + 1 - (intOf kv).toNat)
  case atStart => exact ⟨0, w.heap.size + 1, 0, 0, w.heap.size + 2, 0, 0, by omega, rfl, rfl, rfl, ints_none _ _, by have := HST.out; omega, ints_none _ _, HST.out, B, HB⟩
  case round =>
    obtain ⟨k, g1, m1, d1, g2, m2, d2, hk, rfl, rfl, rfl, hI1, hg1, hI2, hg2, hB, hb⟩ := hrel
    have HB1 := Lib.hid hB
    have HBW := Lib.hid hb
    have HI1 := Lib.hid hI1
    have HI2 := Lib.hid hI2
    have g0' := lat_cell hB.lt (hB.cell (j := 0) rfl)
    have g1' := lat_cell hB.lt (hB.cell (j := 1) rfl)
    have g2' := lat_cell hB.lt (hB.cell (j := 2) rfl)
    have g3' := lat_cell hB.lt (hB.cell (j := 3) rfl)
    have g4' := lat_cell hB.lt (hB.cell (j := 4) rfl)
    have g5' := lat_cell hB.lt (hB.cell (j := 5) rfl)
    have HC : Hid (∀ q : Lat wr, Calls Tryz.prog 82 #[.agg #[.int .i64 wd, .slice a1 n1 c1, .slice a2 n2 c2, .int .i64 tp, .slice a3 n3 c3, .slice a4 n4 c4]] q.wd fun e w' => e = .returned (.int .i64 (U : Int)) ∧ Below q.wd.heap.size q.wd w') := Lib.hid (fun q => HLV.out q.wd)
    clear hB hb hI1 hI2
    by_cases hle : k ≤ U + n3
    · go_wp2
      refine wp_region_lat (by kernel_rfl) (by kernel_rfl) ?_
      repeat (go_big_quiet_step ((go_at_call 82; exact lat_calls (HC.out _))))
      refine wpQuiet_nil ?_
      intro _ hw'
      obtain ⟨⟨wq, hwq⟩, hw''⟩ := hw'
      subst hw''
      have HF := Lib.hid (HBW.out.trans (hwq.mono HBW.out.size))
      have HJ1 := Lib.hid (HI1.out.below hwq)
      have HJ2 := Lib.hid (HI2.out.below hwq)
      have HBQ := Lib.hid (HB1.out.below hwq HB1.out.lt)
      have hq1 := Nat.lt_of_lt_of_le hg1 hwq.size
      have hq2 := Nat.lt_of_lt_of_le hg2 hwq.size
      rw [← stQ_zero] at HJ1 HJ2
      clear g0' g1' g2' g3' g4' g5' HC hwq HBW HI1 HI2 HB1 hg1 hg2
      go_wp2_with fail
      rw [show decide ((k : Int) ≤ (U : Int) + (n3 : Int)) = true from decide_eq_true (by omega)]
      go_loopw [4, 5, 7] (fun vv av iv wr => ∃ (j g1 m1 d1 g2 m2 d2 : Nat), j ≤ n4 ∧ iv = .int .i64 (j : Int) ∧ vv = .slice (some ⟨g1, 0, none⟩) m1 d1 ∧ av = .slice (some ⟨g2, 0, none⟩) m2 d2 ∧ Ints wr (some ⟨g1, 0, none⟩) m1 (stQ p k j).1 ∧ g1 < wr.heap.size ∧ Ints wr (some ⟨g2, 0, none⟩) m2 (stQ p k j).2 ∧ g2 < wr.heap.size ∧
        Blk wr w.heap.size 28 [.int .i64 wd, .slice a1 n1 c1, .slice a2 n2 c2, .int .i64 tp, .slice a3 n3 c3, .slice a4 n4 c4] ∧ Below w.heap.size w wr) (fun _ _ iv _ => n4 - (intOf iv).toNat)
      case atStart => exact ⟨0, g1, m1, d1, g2, m2, d2, Nat.zero_le _, rfl, rfl, rfl, HJ1.out, hq1, HJ2.out, hq2, HBQ.out, HF.out⟩
      case round =>
        obtain ⟨j, g1, m1, d1, g2, m2, d2, hj, rfl, rfl, rfl, hI1, hg1, hI2, hg2, hB, hb⟩ := hrel
        have HB1 := Lib.hid hB
        have HBW := Lib.hid hb
        have HI1 := Lib.hid hI1
        have HI2 := Lib.hid hI2
        have t5 := hB.cell (j := 5) rfl
        clear hB hb hI1 hI2
        by_cases hlt : j < n4
        · obtain ⟨sb, so, x, y, p1, e1, f1, p2, e2, f2, ts, us, hae, hsb, hst, hc1, hc2, hc3, hc4, hcp1, hcp2, hT1, hT2⟩ := HRW.out j (by rw [HL.out]; exact hlt)
          subst hae
          have hc1 := (HBW.out.cell hsb).trans hc1
          have hc2 := (HBW.out.cell hsb).trans hc2
          have hc3 := (HBW.out.cell hsb).trans hc3
          have hc4 := (HBW.out.cell hsb).trans hc4
          obtain ⟨ws, HWS⟩ : ∃ ws, Hid (ws = wr.alloc (.cells #[.int .i64 x, .int .i64 y, .slice p1 e1 f1, .slice p2 e2 f2] 74)) := ⟨_, rfl⟩
          have hbs : Below wr.heap.size wr ws := by rw [HWS.out]; exact (Below.refl _ _).alloc (Nat.le_refl _) _
          have BS : Blk ws wr.heap.size 74 [.int .i64 x, .int .i64 y, .slice p1 e1 f1, .slice p2 e2 f2] := by rw [HWS.out]; exact Blk.new wr _ _
          have HBS := Lib.hid BS
          have HB2 := Lib.hid (HB1.out.below hbs HB1.out.lt)
          have HW2 := Lib.hid (HBW.out.trans (hbs.mono HBW.out.size))
          have HJ1 := Lib.hid (HI1.out.below hbs)
          have HJ2 := Lib.hid (HI2.out.below hbs)
          have hq1 := Nat.lt_of_lt_of_le hg1 hbs.size
          have hq2 := Nat.lt_of_lt_of_le hg2 hbs.size
          have HRS : Hid (RightS p ⟨x, y, ts, us⟩) := Lib.hid (by have := right_all HZ.out _ (stAt_mem (show j < p.body.length by rw [HL.out]; exact hlt)); rw [hst.out] at this; exact this)
          have HTT := Lib.hid (fun w' (hw : Below w.heap.size w w') => And.intro (hT1.below (Nat.le_refl _) hw) (hT2.below (Nat.le_refl _) hw))
          obtain ⟨q, HQ⟩ : ∃ q, Hid (cntB p ⟨x, y, ts, us⟩ (stQ p k j).1 (stQ p k j).2 = q) := ⟨_, rfl⟩
          have HC := Lib.hid (HCN.out x y p1 p2 (some ⟨g1, 0, none⟩) (some ⟨g2, 0, none⟩) e1 e2 f1 f2 m1 d1 m2 d2 ts us _ _ ws HW2.out HRS.out (HTT.out ws HW2.out).1 (HTT.out ws HW2.out).2 hcp1 hcp2 HJ1.out HJ2.out)
          rw [HQ.out] at HC
          have t0 := HB2.out.cell (j := 0) rfl
          have t1 := HB2.out.cell (j := 1) rfl
          have t2 := HB2.out.cell (j := 2) rfl
          have t3 := HB2.out.cell (j := 3) rfl
          have t4 := HB2.out.cell (j := 4) rfl
          have t5 := HB2.out.cell (j := 5) rfl
          rw [HWS.out] at t0 t1 t2 t3 t4 t5
          clear BS hbs hT1 hT2 HI1 HI2 HB1 HBW
          go_wp2_with fail
          rw [← HWS.out]
          refine HC.out.mono ?_
          rintro e w1 ⟨rfl, hb1⟩
          have HB3 := Lib.hid (HB2.out.below hb1 HB2.out.lt)
          have HW3 := Lib.hid (HW2.out.trans (hb1.mono HW2.out.size))
          have HK1 := Lib.hid (HJ1.out.below hb1)
          have HK2 := Lib.hid (HJ2.out.below hb1)
          have hr1 := Nat.lt_of_lt_of_le hq1 hb1.size
          have hr2 := Nat.lt_of_lt_of_le hq2 hb1.size
          have HS3 := Lib.hid (HBS.out.below hb1 HBS.out.lt)
          clear t0 t1 t2 t3 t4 t5 hc1 hc2 hc3 hc4 hb1 HC HJ1 HJ2 hq1 hq2 hg1 hg2
          cases q with
          | false =>
            have HSN : Hid (stQ p k (j + 1) = stQ p k j) := Lib.hid (stQ_no (by rw [HL.out]; exact hlt) hst HQ.out)
            rw [← HSN.out] at HK1 HK2
            go_wp2
            go_roundw
            case rel => exact ⟨j + 1, g1, m1, d1, g2, m2, d2, by omega, by go_num, rfl, rfl, HK1.out, hr1, HK2.out, hr2, HB3.out, HW3.out⟩
            case measure => simp [intOf]; omega
          | true =>
            have HSY : Hid (stQ p k (j + 1) = (addL (addL (stQ p k j).1 (nmB 1 ts)) (nmB 1 us), addL (addL (stQ p k j).2 (nmB 2 ts)) (nmB 2 us))) := Lib.hid (stQ_yes (by rw [HL.out]; exact hlt) hst HQ.out)
            have hsm := stQ_small HZ.out k j
            have hst1 := right_stand (right_f HRS.out)
            simp only [] at hst1
            have hfa := nmB_few HZ.out hst1.1
            have hfe := nmB_few HZ.out hst1.2
            have hl1 := HK1.out.1
            have hl2 := HK2.out.1
            obtain ⟨Q1, HQ1⟩ : ∃ z, Hid ((stQ p k j).1 = z) := ⟨_, rfl⟩
            obtain ⟨Q2, HQ2⟩ : ∃ z, Hid ((stQ p k j).2 = z) := ⟨_, rfl⟩
            obtain ⟨A1, HA1⟩ : ∃ z, Hid (nmB 1 ts = z) := ⟨_, rfl⟩
            obtain ⟨A2, HA2⟩ : ∃ z, Hid (nmB 2 ts = z) := ⟨_, rfl⟩
            obtain ⟨E1, HE1⟩ : ∃ z, Hid (nmB 1 us = z) := ⟨_, rfl⟩
            obtain ⟨E2, HE2⟩ : ∃ z, Hid (nmB 2 us = z) := ⟨_, rfl⟩
            rw [HQ1.out, HQ2.out, HA1.out, HA2.out, HE1.out, HE2.out] at HSY
            rw [HQ1.out] at HK1 hl1
            rw [HQ2.out] at HK2 hl2
            rw [HQ1.out, HQ2.out] at hsm
            rw [HA1.out, HA2.out] at hfa
            rw [HE1.out, HE2.out] at hfe
            have HSM := Lib.hid (And.intro hsm (And.intro hfa hfe))
            have HLL := Lib.hid (And.intro hl1 hl2)
            have S3 := HS3.out
            have v2 := S3.cell (j := 2) rfl
            have v3 := S3.cell (j := 3) rfl
            clear hsm hfa hfe hl1 hl2 hst1 S3
            go_wp2_with fail
            refine (specNamesIn_any p1 e1 f1 ts w1 (HTT.out w1 HW3.out).1).mono ?_
            rintro e w2 ⟨⟨na1, na2, na3⟩, ⟨nb1, nb2, nb3⟩, rfl, ⟨o1, o2, _⟩, hb2⟩
            rw [HA1.out] at o1
            rw [HA2.out] at o2
            have HB4 := Lib.hid (HB3.out.below hb2 HB3.out.lt)
            have HW4 := Lib.hid (HW3.out.trans (hb2.mono HW3.out.size))
            have HM1 := Lib.hid (HK1.out.below hb2)
            have HM2 := Lib.hid (HK2.out.below hb2)
            have hs1 := Nat.lt_of_lt_of_le hr1 hb2.size
            have hs2 := Nat.lt_of_lt_of_le hr2 hb2.size
            have S4 := HS3.out.below hb2 HS3.out.lt
            have u3 := S4.cell (j := 3) rfl
            have HO1 := Lib.hid o1.ints
            have HO2 := Lib.hid o2.ints
            clear v2 v3 hb2 S4 o1 o2 hr1 hr2 HK1 HK2
            simp only [slV]
            go_wp2_with fail
            refine (specNamesIn_any p2 e2 f2 us w2 (HTT.out w2 HW4.out).2).mono ?_
            rintro e w3 ⟨⟨nc1, nc2, nc3⟩, ⟨nd1, nd2, nd3⟩, rfl, ⟨o1, o2, _⟩, hb3⟩
            rw [HE1.out] at o1
            rw [HE2.out] at o2
            have HB5 := Lib.hid (HB4.out.below hb3 HB4.out.lt)
            have HW5 := Lib.hid (HW4.out.trans (hb3.mono HW4.out.size))
            have HN1 := Lib.hid (HM1.out.below hb3)
            have HN2 := Lib.hid (HM2.out.below hb3)
            have hv1 := Nat.lt_of_lt_of_le hs1 hb3.size
            have hv2 := Nat.lt_of_lt_of_le hs2 hb3.size
            have HP1 := Lib.hid (HO1.out.below hb3)
            have HP2 := Lib.hid (HO2.out.below hb3)
            have HP3 := Lib.hid o1.ints
            have HP4 := Lib.hid o2.ints
            clear u3 hb3 o1 o2 hs1 hs2 HM1 HM2 HO1 HO2
            simp only [slV]
            go_wp2_with fail
            refine (l10Add_any g1 m1 d1 Q1 na1 na2 na3 A1 w3 HN1.out hv1 HP1.out (by have := HSM.out; have := HLL.out; have := HP1.out.1; omega)).mono ?_
            rintro e w4 ⟨k1, l1, j1, rfl, hI, hg, hb4⟩
            have HB6 := Lib.hid (HB5.out.below hb4 HB5.out.lt)
            have HW6 := Lib.hid (HW5.out.trans (hb4.mono HW5.out.size))
            have HR2 := Lib.hid (HN2.out.below hb4)
            have hx2 := Nat.lt_of_lt_of_le hv2 hb4.size
            have HT2 := Lib.hid (HP2.out.below hb4)
            have HT3 := Lib.hid (HP3.out.below hb4)
            have HT4 := Lib.hid (HP4.out.below hb4)
            clear hb4 hv1 hv2 HN1 HN2 HP1 HP2
            go_wp2_with fail
            refine (l10Add_any k1 l1 j1 _ nc1 nc2 nc3 E1 w4 hI hg HT3.out (by have := HSM.out; have := HLL.out; have := hI.1; have := addL_len A1 Q1; have := HT3.out.1; omega)).mono ?_
            rintro e w5 ⟨k2, l2, j2, rfl, hI2, hg2, hb5⟩
            have HB7 := Lib.hid (HB6.out.below hb5 HB6.out.lt)
            have HW7 := Lib.hid (HW6.out.trans (hb5.mono HW6.out.size))
            have HX2 := Lib.hid (HR2.out.below hb5)
            have hy2 := Nat.lt_of_lt_of_le hx2 hb5.size
            have HY2 := Lib.hid (HT2.out.below hb5)
            have HY4 := Lib.hid (HT4.out.below hb5)
            have HF1 := Lib.hid hI2
            clear hb5 hx2 hI hg HR2 HT2 HT3 HT4 HP3 HP4 hI2
            go_wp2_with fail
            refine (l10Add_any g2 m2 d2 Q2 nb1 nb2 nb3 A2 w5 HX2.out hy2 HY2.out (by have := HSM.out; have := HLL.out; have := HY2.out.1; omega)).mono ?_
            rintro e w6 ⟨k3, l3, j3, rfl, hI3, hg3, hb6⟩
            have HB8 := Lib.hid (HB7.out.below hb6 HB7.out.lt)
            have HW8 := Lib.hid (HW7.out.trans (hb6.mono HW7.out.size))
            have HF2 := Lib.hid (HF1.out.below hb6)
            have hz2 := Nat.lt_of_lt_of_le hg2 hb6.size
            have HZ4 := Lib.hid (HY4.out.below hb6)
            clear hb6 hy2 hg2 HX2 HY2 HY4 HF1
            go_wp2_with fail
            refine (l10Add_any k3 l3 j3 _ nd1 nd2 nd3 E2 w6 hI3 hg3 HZ4.out (by have := HSM.out; have := HLL.out; have := hI3.1; have := addL_len A2 Q2; have := HZ4.out.1; omega)).mono ?_
            rintro e w7 ⟨k4, l4, j4, rfl, hI4, hg4, hb7⟩
            have HB9 := Lib.hid (HB8.out.below hb7 HB8.out.lt)
            have HW9 := Lib.hid (HW8.out.trans (hb7.mono HW8.out.size))
            have HG1 : Hid (Ints w7 (some ⟨k2, 0, none⟩) l2 (stQ p k (j + 1)).1) := Lib.hid (by rw [HSY.out]; exact HF2.out.below hb7)
            have HG2 : Hid (Ints w7 (some ⟨k4, 0, none⟩) l4 (stQ p k (j + 1)).2) := Lib.hid (by rw [HSY.out]; exact hI4)
            have hr1 := Nat.lt_of_lt_of_le hz2 hb7.size
            clear hb7 hz2 hg3 hI3 hI4 HZ4 HF2 HSY
            go_wp2
            go_roundw
            case rel => exact ⟨j + 1, k2, l2, j2, k4, l4, j4, by omega, by go_num, rfl, rfl, HG1.out, hr1, HG2.out, hg4, HB9.out, HW9.out⟩
            case measure => simp [intOf]; omega
        · obtain rfl : n4 = j := by omega
          rw [← HL.out, stQ_len] at HI1 HI2
          go_wp2
          go_roundw
          case rel => exact ⟨k + 1, g1, m1, d1, g2, m2, d2, by omega, by go_num, rfl, rfl, HI1.out, hg1, HI2.out, hg2, HB1.out, HBW.out⟩
          case measure => simp [intOf]; omega
    · obtain rfl : k = U + n3 + 1 := by omega
      go_wp2
      refine wp_region_lat (by kernel_rfl) (by kernel_rfl) ?_
      repeat (go_big_quiet_step ((go_at_call 82; exact lat_calls (HC.out _))))
      refine wpQuiet_nil ?_
      intro _ hw'
      obtain ⟨⟨wq, hwq⟩, hw''⟩ := hw'
      subst hw''
      have HF := Lib.hid (HBW.out.trans (hwq.mono HBW.out.size))
      have HJ1 := Lib.hid (HI1.out.below hwq)
      have HJ2 := Lib.hid (HI2.out.below hwq)
      clear g0' g1' g2' g3' g4' g5' HC hwq
      go_wp2
      go_ret2
      exact ⟨g1, m1, d1, g2, m2, d2, rfl, by rw [HNP.out]; exact HJ1.out, by rw [HNP.out]; exact HJ2.out, HF.out⟩
end Go.Proofs.YtbnpoliogldohaaGreat
/- What StartOf asks of inputs and answers: words, and the contract of the program's areInputs. -/
namespace Go.Proofs.YtbnpoliogldohaaGreat
open Go.RowKit

/-- Every value from 0 to its Max, as many as there are. -/
def areB (ins : List Tm) (zs : List Int) : Bool := decide (zs.length = ins.length) && (List.range zs.length).all (fun i => decide (0 ≤ zs.getD i 0) && decide (zs.getD i 0 ≤ (tmAt ins i).1))
def AreTo (ins : List Tm) (zs : List Int) (k : Nat) : Prop := ∀ i, i < k → 0 ≤ zs.getD i 0 ∧ zs.getD i 0 ≤ (tmAt ins i).1
theorem AreTo.zero (ins : List Tm) (zs : List Int) : AreTo ins zs 0 := fun i hi => absurd hi (by omega)
theorem AreTo.succ {ins : List Tm} {zs : List Int} {k : Nat} {z : Int} {t : Tm} (h : AreTo ins zs k) (hz : Hid (z = zs.getD k 0)) (ht : Hid (tmAt ins k = t)) (h0 : 0 ≤ z) (h1 : z ≤ t.1) : AreTo ins zs (k + 1) := by
  intro i hi
  rcases Nat.lt_or_ge i k with hlt | hge
  · exact h i hlt
  · obtain rfl : i = k := by omega
    rw [← hz.out, ht.out]; exact ⟨h0, h1⟩
/-- Is there a start? -/
noncomputable def startB (p : Prg) (ls ss : List Int) : Bool := (codeB p == 0) && (areB p.lows ls && areB p.secrets ss)
/-- The start. -/
def startQ (p : Prg) (ls ss : List Int) : Sta := ⟨ls ++ ss ++ List.replicate p.temps.toNat 0, p.arrays.map (fun z => List.replicate z.toNat 0), []⟩
end Go.Proofs.YtbnpoliogldohaaGreat
