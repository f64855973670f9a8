/- Plain mathematics of lists of Terms: what each takes, the depth that is left, trees and their Terms in order, where a part begins, names rising. No Go text here. -/
import Derived.Test.YtdippnnhibgjoaaBase
namespace Go.Proofs.Ytdippnnhibgjoaa
open Go.RowKit

/-- A Term: its Op and its N. -/
abbrev Tm := Int × Int

/-- How many a Term of that Op takes; -1 of any other number. -/
def takesI (op : Int) : Int :=
  if op = 0 ∨ op = 1 then 0 else if op = 2 ∨ op = 3 ∨ op = 4 then 1 else if op = 17 then 3 else if 5 ≤ op ∧ op ≤ 16 then 2 else -1
theorem takesI_range (op : Int) : -1 ≤ takesI op ∧ takesI op ≤ 3 := by unfold takesI; split <;> (try split) <;> (try split) <;> (try split) <;> omega
theorem takesI_neg (op : Int) : takesI op = -1 ↔ op < 0 ∨ 17 < op := by unfold takesI; split <;> (try split) <;> (try split) <;> (try split) <;> omega

/-- A Term that may stand in an expression. -/
def tOkB (t : Tm) : Bool := decide (0 ≤ takesI t.1) && decide (0 ≤ t.2) && decide (t.2 ≤ 255) && (decide (t.1 ≤ 2) || decide (t.2 = 0))
theorem tOkB_iff (t : Tm) : tOkB t = true ↔ 0 ≤ takesI t.1 ∧ 0 ≤ t.2 ∧ t.2 ≤ 255 ∧ (t.1 ≤ 2 ∨ t.2 = 0) := by
  unfold tOkB; simp only [Bool.and_eq_true, Bool.or_eq_true, decide_eq_true_eq]; exact ⟨fun h => ⟨h.1.1.1, h.1.1.2, h.1.2, h.2⟩, fun h => ⟨⟨⟨h.1, h.2.1⟩, h.2.2.1⟩, h.2.2.2⟩⟩

/-- How many are left behind the Terms, from d on; none where one is wrong, or takes what is not there. -/
def runD : Int → List Tm → Option Int
  | d, [] => some d
  | d, t :: r => if tOkB t = true ∧ takesI t.1 ≤ d then runD (d + 1 - takesI t.1) r else none
theorem runD_append (d : Int) (a b : List Tm) : runD d (a ++ b) = (runD d a).bind (fun x => runD x b) := by
  induction a generalizing d with
  | nil => rfl
  | cons t r ih => simp only [List.cons_append, runD]; split <;> simp [ih]
theorem runD_nonneg {d x : Int} {ts : List Tm} (h : runD d ts = some x) (hd : 0 ≤ d) : 0 ≤ x := by
  induction ts generalizing d with
  | nil => simp [runD] at h; omega
  | cons t r ih =>
    simp only [runD] at h
    split at h
    · next hc => exact ih h (by omega)
    · cases h
theorem runD_pos {d x : Int} {ts : List Tm} (h : runD d ts = some x) (hd : 0 ≤ d) (hn : 0 < ts.length) : 1 ≤ x := by
  induction ts generalizing d with
  | nil => simp at hn
  | cons t r ih =>
    simp only [runD] at h
    split at h
    · next hc =>
      cases r with
      | nil => simp [runD] at h; omega
      | cons u s => exact ih h (by omega) (by simp)
    · cases h
theorem runD_le {d x : Int} {ts : List Tm} (h : runD d ts = some x) : x ≤ d + ts.length := by
  induction ts generalizing d with
  | nil => simp [runD] at h; simp; omega
  | cons t r ih =>
    simp only [runD] at h
    split at h
    · next hc =>
      have := ih h
      have hk := ((tOkB_iff t).1 hc.1).1
      simp; omega
    · cases h

/-- An expression. -/
def expB (ts : List Tm) : Bool := decide (ts.length ≤ 3000) && (runD 0 ts == some 1)
theorem expB_iff (ts : List Tm) : expB ts = true ↔ ts.length ≤ 3000 ∧ runD 0 ts = some 1 := by
  unfold expB; simp
theorem expB_long {ts : List Tm} (h : 3000 < ts.length) : expB ts = false := by
  unfold expB; rw [decide_eq_false (by omega)]; rfl

/-- The Term at a place. -/
def tmAt (ts : List Tm) (k : Nat) : Tm := ts.getD k (0, 0)
theorem tmAt_mem {ts : List Tm} {k : Nat} (h : k < ts.length) : tmAt ts k ∈ ts := by
  unfold tmAt; rw [List.getD_eq_getElem?_getD, List.getElem?_eq_getElem h]; exact List.getElem_mem h
theorem tm_snoc (ts : List Tm) (k : Nat) (h : k < ts.length) : ts.take (k + 1) = ts.take k ++ [tmAt ts k] := by
  unfold tmAt; rw [List.take_succ_eq_append_getElem h, List.getD_eq_getElem?_getD, List.getElem?_eq_getElem h]; rfl
theorem tm_split (ts : List Tm) (k : Nat) (h : k < ts.length) : ts = ts.take k ++ tmAt ts k :: ts.drop (k + 1) := by
  have h1 := List.take_append_drop (k + 1) ts
  rw [tm_snoc ts k h, List.append_assoc] at h1
  exact h1.symm
theorem tmAt_append_left {a b : List Tm} {k : Nat} (h : k < a.length) : tmAt (a ++ b) k = tmAt a k := by
  unfold tmAt; rw [List.getD_eq_getElem?_getD, List.getD_eq_getElem?_getD, List.getElem?_append_left h]
theorem tmAt_append_right {a b : List Tm} {k : Nat} : tmAt (a ++ b) (a.length + k) = tmAt b k := by
  unfold tmAt; rw [List.getD_eq_getElem?_getD, List.getD_eq_getElem?_getD, List.getElem?_append_right (by omega), Nat.add_sub_cancel_left]

theorem runD_step {ts : List Tm} {k : Nat} {d : Int} (hk : k < ts.length) (h : runD 0 (ts.take k) = some d) (ho : tOkB (tmAt ts k) = true) (ht : takesI (tmAt ts k).1 ≤ d) :
    runD 0 (ts.take (k + 1)) = some (d + 1 - takesI (tmAt ts k).1) := by
  rw [tm_snoc ts k hk, runD_append, h]; simp only [Option.bind_some, runD]; rw [if_pos ⟨ho, ht⟩]
theorem runD_bad {ts : List Tm} {k : Nat} {d : Int} (hk : k < ts.length) (h : runD 0 (ts.take k) = some d) (hb : tOkB (tmAt ts k) = false ∨ d < takesI (tmAt ts k).1) :
    runD 0 ts = none := by
  rw [tm_split ts k hk, runD_append, h]; simp only [Option.bind_some, runD]
  rw [if_neg]
  rintro ⟨h1, h2⟩
  rcases hb with hb | hb
  · rw [hb] at h1; cases h1
  · omega
theorem expB_bad {ts : List Tm} {k : Nat} {d : Int} (hk : k < ts.length) (h : runD 0 (ts.take k) = some d) (hb : tOkB (tmAt ts k) = false ∨ d < takesI (tmAt ts k).1) : expB ts = false := by
  unfold expB; rw [runD_bad hk h hb]; simp
theorem expB_end {ts : List Tm} {d : Int} (hl : ts.length ≤ 3000) (h : runD 0 ts = some d) : expB ts = (d == 1) := by
  unfold expB; rw [decide_eq_true hl, h]; simp
/-- Of what is right, each beginning is. -/
theorem runD_take {ts : List Tm} {x : Int} (h : runD 0 ts = some x) (k : Nat) : ∃ d, runD 0 (ts.take k) = some d ∧ 0 ≤ d := by
  have h1 := List.take_append_drop k ts
  rw [← h1, runD_append] at h
  cases hd : runD 0 (ts.take k) with
  | none => rw [hd] at h; cases h
  | some d => exact ⟨d, rfl, runD_nonneg hd (by omega)⟩
theorem runD_at {ts : List Tm} {x d : Int} {k : Nat} (h : runD 0 ts = some x) (hk : k < ts.length) (hd : runD 0 (ts.take k) = some d) :
    tOkB (tmAt ts k) = true ∧ takesI (tmAt ts k).1 ≤ d ∧ runD 0 (ts.take (k + 1)) = some (d + 1 - takesI (tmAt ts k).1) := by
  have h1 : tOkB (tmAt ts k) = true := by
    cases hb : tOkB (tmAt ts k) with
    | true => rfl
    | false => rw [runD_bad hk hd (.inl hb)] at h; cases h
  have h2 : takesI (tmAt ts k).1 ≤ d := by
    rcases Int.lt_or_le d (takesI (tmAt ts k).1) with hb | hb
    · rw [runD_bad hk hd (.inr hb)] at h; cases h
    · exact hb
  exact ⟨h1, h2, runD_step hk hd h1 h2⟩

/-! ### Where a part begins: back from a place, till nothing more is needed -/
def scan (ts : List Tm) : Nat → Int → Nat
  | 0, _ => 0
  | i + 1, need => if need - 1 + takesI (tmAt ts i).1 = 0 then i else scan ts i (need - 1 + takesI (tmAt ts i).1)
theorem scan_le (ts : List Tm) : ∀ (i : Nat) (need : Int), scan ts i need ≤ i := by
  intro i
  induction i with
  | zero => intro n; exact Nat.le_refl _
  | succ i ih =>
    intro n
    simp only [scan]
    split
    · omega
    · have := ih (n - 1 + takesI (tmAt ts i).1); omega
theorem scan_lt (ts : List Tm) (i : Nat) (need : Int) (h : 0 < i) : scan ts i need < i := by
  obtain ⟨j, rfl⟩ : ∃ j, i = j + 1 := ⟨i - 1, by omega⟩
  simp only [scan]
  split
  · omega
  · have := scan_le ts j (need - 1 + takesI (tmAt ts j).1); omega
/-- What FirstOf answers. -/
def firstI (ts : List Tm) (at_ : Int) : Int := if expB ts = true ∧ 0 ≤ at_ ∧ at_ < (ts.length : Int) then (scan ts (at_.toNat + 1) 1 : Nat) else -1

/-! ### Trees -/
inductive Tr where
  | node (op n : Int) (kids : List Tr)
mutual
def Tr.flat : Tr → List Tm
  | .node op n kids => Tr.flats kids ++ [(op, n)]
def Tr.flats : List Tr → List Tm
  | [] => []
  | t :: r => t.flat ++ Tr.flats r
end
mutual
def Tr.okT : Tr → Prop
  | .node op n kids => tOkB (op, n) = true ∧ (kids.length : Int) = takesI op ∧ Tr.oks kids
def Tr.oks : List Tr → Prop
  | [] => True
  | t :: r => t.okT ∧ Tr.oks r
end
theorem flats_append (a b : List Tr) : Tr.flats (a ++ b) = Tr.flats a ++ Tr.flats b := by
  induction a with
  | nil => simp [Tr.flats]
  | cons t r ih => simp [Tr.flats, ih]
theorem flats_one (t : Tr) : Tr.flats [t] = t.flat := by simp [Tr.flats]
theorem oks_append (a b : List Tr) : Tr.oks (a ++ b) ↔ Tr.oks a ∧ Tr.oks b := by
  induction a with
  | nil => simp [Tr.oks]
  | cons t r ih => simp [Tr.oks, ih, and_assoc]
theorem oks_iff (a : List Tr) : Tr.oks a ↔ ∀ t ∈ a, t.okT := by
  induction a with
  | nil => simp [Tr.oks]
  | cons t r ih => simp [Tr.oks, ih]
theorem flat_pos : ∀ t : Tr, 0 < t.flat.length
  | .node op n kids => by simp [Tr.flat]
mutual
theorem runD_flat : ∀ (t : Tr) (d : Int), 0 ≤ d → t.okT → runD d t.flat = some (d + 1)
  | .node op n kids, d, hd, h => by
    simp only [Tr.okT] at h
    simp only [Tr.flat]
    rw [runD_append, runD_flats kids d hd h.2.2]
    simp only [Option.bind_some, runD]
    rw [if_pos ⟨h.1, by have := h.2.1; omega⟩]
    congr 1
    omega
theorem runD_flats : ∀ (ts : List Tr) (d : Int), 0 ≤ d → Tr.oks ts → runD d (Tr.flats ts) = some (d + ts.length)
  | [], d, _, _ => by simp [Tr.flats, runD]
  | t :: r, d, hd, h => by
    simp only [Tr.oks] at h
    simp only [Tr.flats]
    rw [runD_append, runD_flat t d hd h.1]
    simp only [Option.bind_some]
    rw [runD_flats r (d + 1) (by omega) h.2]
    congr 1
    simp; omega
end
mutual
/-- Back over a whole tree one needs one less; with one needed it is where the tree begins. -/
theorem scan_flat : ∀ (t : Tr) (p q : List Tm) (m : Int), 1 ≤ m → t.okT →
    scan (p ++ (t.flat ++ q)) (p.length + t.flat.length) m = if m = 1 then p.length else scan (p ++ (t.flat ++ q)) p.length (m - 1)
  | .node op n kids, p, q, m, hm, h => by
    simp only [Tr.okT] at h
    have e1 : p.length + (Tr.node op n kids).flat.length = (p.length + (Tr.flats kids).length) + 1 := by simp [Tr.flat]; omega
    have e2 : tmAt (p ++ ((Tr.node op n kids).flat ++ q)) (p.length + (Tr.flats kids).length) = (op, n) := by
      rw [tmAt_append_right]
      simp only [Tr.flat, List.append_assoc]
      rw [show (Tr.flats kids).length = (Tr.flats kids).length + 0 from rfl, tmAt_append_right]
      rfl
    rw [e1]
    simp only [scan]
    rw [e2]
    simp only []
    have e3 : p ++ ((Tr.node op n kids).flat ++ q) = p ++ (Tr.flats kids ++ ((op, n) :: q)) := by simp [Tr.flat]
    rw [e3]
    cases kids with
    | nil =>
      have h0 : takesI op = 0 := by have := h.2.1; simp at this; omega
      rw [h0]
      simp only [Tr.flats, List.length_nil, Nat.add_zero]
      by_cases h1 : m = 1
      · subst h1; simp
      · rw [if_neg (by omega), if_neg h1]; congr 1; omega
    | cons k ks =>
      have hk : 1 ≤ takesI op := by have := h.2.1; simp at this; omega
      rw [if_neg (by omega)]
      have := scan_flats (k :: ks) p ((op, n) :: q) (m - 1 + takesI op) (by have := h.2.1; omega) (by simp) h.2.2
      rw [this]
      have e4 : m - 1 + takesI op - ((k :: ks).length : Int) = m - 1 := by have := h.2.1; omega
      rw [e4]
      by_cases h1 : m = 1
      · subst h1; simp
      · rw [if_neg (by omega), if_neg h1]
theorem scan_flats : ∀ (ts : List Tr) (p q : List Tm) (m : Int), (ts.length : Int) ≤ m → ts ≠ [] → Tr.oks ts →
    scan (p ++ (Tr.flats ts ++ q)) (p.length + (Tr.flats ts).length) m = if m - ts.length = 0 then p.length else scan (p ++ (Tr.flats ts ++ q)) p.length (m - ts.length)
  | [], _, _, _, _, h, _ => absurd rfl h
  | [t], p, q, m, hm, _, h => by
    simp only [Tr.oks] at h
    simp only [Tr.flats, List.append_nil]
    rw [scan_flat t p q m (by simpa using hm) h.1]
    by_cases h1 : m = 1
    · subst h1; simp
    · rw [if_neg h1, if_neg (by simp; omega)]; rfl
  | t :: u :: r, p, q, m, hm, _, h => by
    simp only [Tr.oks] at h
    have ih := scan_flats (u :: r) (p ++ t.flat) q m (by simp at hm ⊢; omega) (by simp) (by simp only [Tr.oks]; exact h.2)
    have e1 : p ++ (Tr.flats (t :: u :: r) ++ q) = p ++ t.flat ++ (Tr.flats (u :: r) ++ q) := by simp [Tr.flats]
    have e2 : p.length + (Tr.flats (t :: u :: r)).length = (p ++ t.flat).length + (Tr.flats (u :: r)).length := by simp [Tr.flats]; omega
    rw [e1, e2, ih, if_neg (by simp at hm ⊢; omega)]
    have e3 : p ++ t.flat ++ (Tr.flats (u :: r) ++ q) = p ++ (t.flat ++ (Tr.flats (u :: r) ++ q)) := by simp
    rw [e3]
    have := scan_flat t p (Tr.flats (u :: r) ++ q) (m - ((u :: r).length : Int)) (by simp at hm ⊢; omega) h.1
    rw [List.length_append, this]
    have e4 : m - ((u :: r).length : Int) - 1 = m - ((t :: u :: r).length : Int) := by simp; omega
    rw [e4]
    by_cases h1 : m - ((u :: r).length : Int) = 1
    · rw [if_pos h1, if_pos (by omega)]
    · rw [if_neg h1, if_neg (by omega)]
end

/-! ### The stack of trees behind some Terms -/
def stepS (S : List Tr) (t : Tm) : List Tr := S.take (S.length - (takesI t.1).toNat) ++ [.node t.1 t.2 (S.drop (S.length - (takesI t.1).toNat))]
def stackOf (ts : List Tm) : List Tr := ts.foldl stepS []
theorem stackOf_snoc (ts : List Tm) (t : Tm) : stackOf (ts ++ [t]) = stepS (stackOf ts) t := by simp [stackOf]
theorem stackOf_succ (ts : List Tm) (k : Nat) (h : k < ts.length) : stackOf (ts.take (k + 1)) = stepS (stackOf (ts.take k)) (tmAt ts k) := by
  rw [tm_snoc ts k h, stackOf_snoc]
theorem stack_is : ∀ (n : Nat) (ts : List Tm) (d : Int), ts.length = n → runD 0 ts = some d →
    ((stackOf ts).length : Int) = d ∧ Tr.flats (stackOf ts) = ts ∧ Tr.oks (stackOf ts) := by
  intro n
  induction n with
  | zero =>
    intro ts d hl h
    have : ts = [] := List.eq_nil_of_length_eq_zero hl
    subst this
    simp [runD] at h
    simp [stackOf, Tr.flats, Tr.oks]; omega
  | succ n ih =>
    intro ts d hl h
    have e := tm_snoc ts n (by omega)
    rw [List.take_of_length_le (by omega)] at e
    obtain ⟨c, hc, hc0⟩ := runD_take h n
    obtain ⟨h1, h2, h3⟩ := runD_at h (by omega) hc
    rw [List.take_of_length_le (by omega), h] at h3
    obtain ⟨i1, i2, i3⟩ := ih (ts.take n) c (by simp; omega) hc
    have hk := ((tOkB_iff _).1 h1).1
    rw [e, stackOf_snoc]
    generalize tmAt ts n = t at *
    generalize stackOf (ts.take n) = S at *
    unfold stepS
    have hd : S.length - (S.length - (takesI t.1).toNat) = (takesI t.1).toNat := by omega
    have hS := List.take_append_drop (S.length - (takesI t.1).toNat) S
    rw [← hS, flats_append] at i2
    rw [← hS, oks_append] at i3
    refine ⟨?_, ?_, ?_⟩
    · injection h3 with h3
      simp only [List.length_append, List.length_take, List.length_singleton]; omega
    · rw [flats_append, flats_one]
      simp only [Tr.flat]
      rw [← List.append_assoc, i2]
    · rw [oks_append]
      refine ⟨i3.1, ?_⟩
      simp only [Tr.oks, Tr.okT, and_true]
      refine ⟨h1, ?_, i3.2⟩
      rw [List.length_drop, hd]; omega
theorem stack_take {ts : List Tm} {x : Int} (h : runD 0 ts = some x) (k : Nat) : ∃ d : Int, runD 0 (ts.take k) = some d ∧ ((stackOf (ts.take k)).length : Int) = d ∧ Tr.flats (stackOf (ts.take k)) = ts.take k ∧ Tr.oks (stackOf (ts.take k)) := by
  obtain ⟨d, hd, _⟩ := runD_take h k
  exact ⟨d, hd, stack_is _ _ _ rfl hd⟩
/-- The tree of an expression. -/
theorem tree_of {ts : List Tm} (h : runD 0 ts = some 1) : ∃ op n kids, stackOf ts = [Tr.node op n kids] ∧ ts = Tr.flats kids ++ [(op, n)] ∧ tOkB (op, n) = true ∧ (kids.length : Int) = takesI op ∧ Tr.oks kids := by
  obtain ⟨h1, h2, h3⟩ := stack_is _ _ _ rfl h
  match hS : stackOf ts, h1 with
  | [Tr.node op n kids], _ =>
    rw [hS] at h2 h3
    rw [flats_one] at h2
    simp only [Tr.oks, Tr.okT, and_true] at h3
    exact ⟨op, n, kids, rfl, by rw [← h2]; rfl, h3.1, h3.2.1, h3.2.2⟩

/-! ### Names, rising -/
def Rise (l : List Int) : Prop := l.Pairwise (· < ·)
theorem rise_ext : ∀ {a b : List Int}, Rise a → Rise b → (∀ x, x ∈ a ↔ x ∈ b) → a = b := by
  intro a
  induction a with
  | nil =>
    intro b _ _ h
    cases b with
    | nil => rfl
    | cons y s => have := (h y).2 (by simp); simp at this
  | cons x r ih =>
    intro b ha hb h
    cases b with
    | nil => have := (h x).1 (by simp); simp at this
    | cons y s =>
      have ha' := List.pairwise_cons.1 ha
      have hb' := List.pairwise_cons.1 hb
      have hxy : x = y := by
        have h1 := (h x).1 (by simp)
        have h2 := (h y).2 (by simp)
        simp only [List.mem_cons] at h1 h2
        rcases h1 with h1 | h1
        · exact h1
        · rcases h2 with h2 | h2
          · exact h2.symm
          · have := ha'.1 y h2; have := hb'.1 x h1; omega
      subst hxy
      rw [ih ha'.2 hb'.2]
      intro z
      have hz := h z
      simp only [List.mem_cons] at hz
      constructor
      · intro hzr
        rcases hz.1 (.inr hzr) with e | e
        · have := ha'.1 z hzr; omega
        · exact e
      · intro hzs
        rcases hz.2 (.inr hzs) with e | e
        · have := hb'.1 z hzs; omega
        · exact e

/-- The names of the Terms of that Op. -/
def namesOf (op : Int) (ts : List Tm) : List Int := (ts.filter (fun t => t.1 == op)).map (·.2)
theorem mem_namesOf {op : Int} {ts : List Tm} {x : Int} : x ∈ namesOf op ts ↔ (op, x) ∈ ts := by
  unfold namesOf
  simp only [List.mem_map, List.mem_filter, beq_iff_eq]
  constructor
  · rintro ⟨⟨a, b⟩, ⟨h1, h2⟩, h3⟩; simp at h2 h3; subst h2 h3; exact h1
  · intro h; exact ⟨(op, x), ⟨h, rfl⟩, rfl⟩
theorem namesOf_append (op : Int) (a b : List Tm) : namesOf op (a ++ b) = namesOf op a ++ namesOf op b := by simp [namesOf]
end Go.Proofs.Ytdippnnhibgjoaa
