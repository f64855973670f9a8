/- Plain mathematics of what is needed: the least lists of names that are closed, round by round; numbers with kinds. No Go text here. -/
import Derived.Test.YtbnpoliogldohaaGreatS24
import Derived.Laws.IdiomRangeMap
namespace Go.Proofs.YtbnpoliogldohaaGreat
open Go.RowKit

theorem rise_len : ∀ {l : List Int} {a u : Int}, Rise l → (∀ x ∈ l, a ≤ x ∧ x < u) → (l.length : Int) ≤ max 0 (u - a)
  | [], a, u, _, _ => by simp; omega
  | x :: l, a, u, h, hb => by
    have h' := List.pairwise_cons.1 h
    have h0 := hb x (by simp)
    have ih := rise_len (a := x + 1) (u := u) h'.2 (fun y hy => by have := h'.1 y hy; have := hb y (by simp [hy]); omega)
    simp only [List.length_cons]
    omega
/-- A list with some numbers more. -/
def addL (l more : List Int) : List Int := more.foldl withI l
theorem addL_is : ∀ {more l : List Int}, Rise l → Rise (addL l more) ∧ ∀ x, x ∈ addL l more ↔ x ∈ l ∨ x ∈ more
  | [], l, h => ⟨h, fun x => by simp [addL]⟩
  | m :: more, l, h => by
    have h1 := withI_is m h
    have h2 := addL_is (more := more) h1.1
    refine ⟨h2.1, fun x => ?_⟩
    rw [show addL l (m :: more) = addL (withI l m) more from rfl, h2.2, h1.2]
    simp only [List.mem_cons]
    constructor
    · rintro ((h | h) | h) <;> simp [h]
    · rintro (h | h | h) <;> simp [h]
theorem addL_app (l a b : List Int) : addL l (a ++ b) = addL (addL l a) b := by simp [addL, List.foldl_append]

section
variable {β : Type} (cnt : β → List Int → List Int → Bool) (n1 n2 : β → List Int)
/-- What is needed is closed. -/
def Closed (body : List β) (V A : List Int) : Prop := ∀ s ∈ body, cnt s V A = true → (∀ x ∈ n1 s, x ∈ V) ∧ ∀ x ∈ n2 s, x ∈ A
/-- What counts, counts with more. -/
def CntMono : Prop := ∀ s V A V' A', (∀ x : Int, x ∈ V → x ∈ V') → (∀ x : Int, x ∈ A → x ∈ A') → cnt s V A = true → cnt s V' A' = true
def stepN (q : List Int × List Int) (s : β) : List Int × List Int := if cnt s q.1 q.2 = true then (addL q.1 (n1 s), addL q.2 (n2 s)) else q
def roundN (body : List β) (q : List Int × List Int) : List Int × List Int := body.foldl (stepN cnt n1 n2) q
def itN (body : List β) : Nat → List Int × List Int
  | 0 => ([], [])
  | k + 1 => roundN cnt n1 n2 body (itN body k)
def RiseQ (q : List Int × List Int) : Prop := Rise q.1 ∧ Rise q.2
def SubQ (q q' : List Int × List Int) : Prop := (∀ x ∈ q.1, x ∈ q'.1) ∧ ∀ x ∈ q.2, x ∈ q'.2
variable {cnt n1 n2}
theorem SubQ.trans {a b c : List Int × List Int} (h : SubQ a b) (k : SubQ b c) : SubQ a c := ⟨fun x hx => k.1 x (h.1 x hx), fun x hx => k.2 x (h.2 x hx)⟩
theorem SubQ.refl (a : List Int × List Int) : SubQ a a := ⟨fun _ h => h, fun _ h => h⟩
theorem stepN_rise {q : List Int × List Int} (h : RiseQ q) (s : β) : RiseQ (stepN cnt n1 n2 q s) := by
  unfold stepN
  split
  · exact ⟨(addL_is h.1).1, (addL_is h.2).1⟩
  · exact h
theorem stepN_sub {q : List Int × List Int} (h : RiseQ q) (s : β) : SubQ q (stepN cnt n1 n2 q s) := by
  unfold stepN
  split
  · exact ⟨fun x hx => ((addL_is h.1).2 x).2 (.inl hx), fun x hx => ((addL_is h.2).2 x).2 (.inl hx)⟩
  · exact .refl _
theorem stepN_in (hm : CntMono cnt) {q : List Int × List Int} (h : RiseQ q) {s : β} {body : List β} {V A : List Int} (hs : s ∈ body) (hc : Closed cnt n1 n2 body V A) (hq : SubQ q (V, A)) : SubQ (stepN cnt n1 n2 q s) (V, A) := by
  unfold stepN
  split
  · next hcs =>
    have := hc s hs (hm s _ _ _ _ hq.1 hq.2 hcs)
    refine ⟨fun x hx => ?_, fun x hx => ?_⟩
    · rcases ((addL_is h.1).2 x).1 hx with h' | h'
      · exact hq.1 x h'
      · exact this.1 x h'
    · rcases ((addL_is h.2).2 x).1 hx with h' | h'
      · exact hq.2 x h'
      · exact this.2 x h'
  · exact hq
theorem round_rise : ∀ {body : List β} {q : List Int × List Int}, RiseQ q → RiseQ (roundN cnt n1 n2 body q)
  | [], _, h => h
  | s :: body, _, h => round_rise (body := body) (stepN_rise h s)
theorem round_sub : ∀ {body : List β} {q : List Int × List Int}, RiseQ q → SubQ q (roundN cnt n1 n2 body q)
  | [], q, _ => .refl q
  | s :: body, _, h => (stepN_sub h s).trans (round_sub (body := body) (stepN_rise h s))
theorem fold_in (hm : CntMono cnt) {all : List β} {V A : List Int} (hc : Closed cnt n1 n2 all V A) : ∀ {body : List β} {q : List Int × List Int}, (∀ s ∈ body, s ∈ all) → RiseQ q → SubQ q (V, A) → SubQ (roundN cnt n1 n2 body q) (V, A)
  | [], _, _, _, h => h
  | s :: body, _, hs, h, hq => fold_in hm hc (body := body) (fun x hx => hs x (by simp [hx])) (stepN_rise h s) (stepN_in hm h (hs s (by simp)) hc hq)
/-- A round that turns nothing has closed it. -/
theorem round_closed (hm : CntMono cnt) : ∀ {body : List β} {q : List Int × List Int}, RiseQ q → SubQ (roundN cnt n1 n2 body q) q → Closed cnt n1 n2 body q.1 q.2
  | [], _, _, _ => fun s hs => by cases hs
  | s :: body, q, h, hq => by
    have h1 : SubQ (roundN cnt n1 n2 body (stepN cnt n1 n2 q s)) q := hq
    have h2 := stepN_sub (cnt := cnt) (n1 := n1) (n2 := n2) h s
    have h3 := stepN_rise (cnt := cnt) (n1 := n1) (n2 := n2) h s
    have h4 : SubQ (stepN cnt n1 n2 q s) q := (round_sub (body := body) h3).trans h1
    have ih := round_closed hm (body := body) h3 (h1.trans h2)
    intro s' hs' hcs
    rcases List.mem_cons.1 hs' with rfl | hs'
    · constructor
      · intro x hx
        refine h4.1 x ?_
        unfold stepN; rw [if_pos hcs]
        exact ((addL_is h.1).2 x).2 (.inr hx)
      · intro x hx
        refine h4.2 x ?_
        unfold stepN; rw [if_pos hcs]
        exact ((addL_is h.2).2 x).2 (.inr hx)
    · have := ih s' hs' (hm _ _ _ _ _ h2.1 h2.2 hcs)
      exact ⟨fun x hx => h4.1 x (this.1 x hx), fun x hx => h4.2 x (this.2 x hx)⟩
theorem itN_rise (body : List β) : ∀ k, RiseQ (itN cnt n1 n2 body k)
  | 0 => ⟨List.Pairwise.nil, List.Pairwise.nil⟩
  | k + 1 => round_rise (itN_rise body k)
theorem itN_in (hm : CntMono cnt) {body : List β} {V A : List Int} (hc : Closed cnt n1 n2 body V A) : ∀ k, SubQ (itN cnt n1 n2 body k) (V, A)
  | 0 => ⟨fun x hx => by simp [itN] at hx, fun x hx => by simp [itN] at hx⟩
  | k + 1 => fold_in hm hc (fun _ h => h) (itN_rise body k) (itN_in hm hc k)
theorem rise_sub_len : ∀ {a b : List Int}, Rise a → Rise b → (∀ x ∈ a, x ∈ b) → a.length ≤ b.length ∧ (a.length = b.length → a = b)
  | [], b, _, _, _ => ⟨by simp, fun h => (List.eq_nil_of_length_eq_zero h.symm).symm⟩
  | x :: a, [], _, _, h => by have := h x (by simp); cases this
  | x :: a, y :: b, ha, hb, h => by
    have ha' := List.pairwise_cons.1 ha
    have hb' := List.pairwise_cons.1 hb
    by_cases hxy : x = y
    · subst hxy
      have ih := rise_sub_len ha'.2 hb'.2 (fun z hz => by
        rcases List.mem_cons.1 (h z (by simp [hz])) with e | h'
        · have := ha'.1 z hz; omega
        · exact h')
      simp only [List.length_cons]
      exact ⟨by omega, fun e => by rw [ih.2 (by omega)]⟩
    · have hx : x ∈ b := (List.mem_cons.1 (h x (by simp))).resolve_left hxy
      have hyx := hb'.1 x hx
      have ih := rise_sub_len ha hb'.2 (fun z hz => by
        rcases List.mem_cons.1 (h z hz) with e | h'
        · rcases List.mem_cons.1 hz with e' | hz'
          · omega
          · have := ha'.1 z hz'; omega
        · exact h')
      simp only [List.length_cons] at ih ⊢
      exact ⟨by omega, fun e => by omega⟩
theorem riseQ_sub_eq {a b : List Int × List Int} (ha : RiseQ a) (hb : RiseQ b) (h : SubQ a b) : a.1.length + a.2.length ≤ b.1.length + b.2.length ∧ (a.1.length + a.2.length = b.1.length + b.2.length → a = b) := by
  have h1 := rise_sub_len ha.1 hb.1 h.1
  have h2 := rise_sub_len ha.2 hb.2 h.2
  exact ⟨by omega, fun e => Prod.ext (h1.2 (by omega)) (h2.2 (by omega))⟩
/-- After so many rounds it is closed, and the least. -/
theorem itN_closed (hm : CntMono cnt) {body : List β} {u1 u2 : Nat} (hb : ∀ s ∈ body, (∀ x ∈ n1 s, 0 ≤ x ∧ x < (u1 : Int)) ∧ ∀ x ∈ n2 s, 0 ≤ x ∧ x < (u2 : Int)) : Closed cnt n1 n2 body (itN cnt n1 n2 body (u1 + u2 + 1)).1 (itN cnt n1 n2 body (u1 + u2 + 1)).2 := by
  have hall : Closed cnt n1 n2 body ((List.range u1).map Int.ofNat) ((List.range u2).map Int.ofNat) := fun s hs _ => by
    refine ⟨fun x hx => ?_, fun x hx => ?_⟩
    · have := (hb s hs).1 x hx
      exact List.mem_map.2 ⟨x.toNat, by simp; omega, by simp; omega⟩
    · have := (hb s hs).2 x hx
      exact List.mem_map.2 ⟨x.toNat, by simp; omega, by simp; omega⟩
  have hbd : ∀ k, (itN cnt n1 n2 body k).1.length ≤ u1 ∧ (itN cnt n1 n2 body k).2.length ≤ u2 := fun k => by
    have h := itN_in hm hall k
    have r := itN_rise (cnt := cnt) (n1 := n1) (n2 := n2) body k
    have a1 := rise_len (a := 0) (u := u1) r.1 (fun x hx => by have := h.1 x hx; simp at this; obtain ⟨i, hi, rfl⟩ := this; omega)
    have a2 := rise_len (a := 0) (u := u2) r.2 (fun x hx => by have := h.2 x hx; simp at this; obtain ⟨i, hi, rfl⟩ := this; omega)
    omega
  -- either it stands by then, or each round has grown
  have key : ∀ k, (itN cnt n1 n2 body (k + 1) = itN cnt n1 n2 body k) ∨ k + 1 ≤ (itN cnt n1 n2 body (k + 1)).1.length + (itN cnt n1 n2 body (k + 1)).2.length := by
    intro k
    induction k with
    | zero =>
      rw [Nat.zero_add]
      have h := riseQ_sub_eq (itN_rise (cnt := cnt) (n1 := n1) (n2 := n2) body 0) (itN_rise body 1) (round_sub (itN_rise body 0))
      by_cases e : (itN cnt n1 n2 body 0).1.length + (itN cnt n1 n2 body 0).2.length = (itN cnt n1 n2 body 1).1.length + (itN cnt n1 n2 body 1).2.length
      · exact .inl (h.2 e).symm
      · exact .inr (by omega)
    | succ k ih =>
      rcases ih with ih | ih
      · left
        show roundN _ _ _ _ _ = _
        rw [ih]
        exact ih
      · have h := riseQ_sub_eq (itN_rise (cnt := cnt) (n1 := n1) (n2 := n2) body (k + 1)) (itN_rise body (k + 1 + 1)) (round_sub (itN_rise body (k + 1)))
        by_cases e : (itN cnt n1 n2 body (k + 1)).1.length + (itN cnt n1 n2 body (k + 1)).2.length = (itN cnt n1 n2 body (k + 1 + 1)).1.length + (itN cnt n1 n2 body (k + 1 + 1)).2.length
        · exact .inl (h.2 e).symm
        · exact .inr (by omega)
  have hst : itN cnt n1 n2 body (u1 + u2 + 1) = itN cnt n1 n2 body (u1 + u2) := by
    rcases key (u1 + u2) with h | h
    · exact h
    · have := hbd (u1 + u2 + 1); omega
  have := round_closed hm (cnt := cnt) (n1 := n1) (n2 := n2) (body := body) (itN_rise body (u1 + u2 + 1)) (by
    rw [hst]
    show SubQ (itN cnt n1 n2 body (u1 + u2 + 1)) _
    rw [hst]; exact .refl _)
  exact this
end
/-- The numbers of one kind. -/
def hv (k : Int) (H : List (Int × Int)) : List Int := (H.filter (fun h => decide (h.1 = k))).map Prod.snd
theorem mem_hv {k n : Int} {H : List (Int × Int)} : n ∈ hv k H ↔ (k, n) ∈ H := by
  unfold hv
  rw [List.mem_map]
  constructor
  · rintro ⟨⟨a, b⟩, h1, rfl⟩
    rw [List.mem_filter] at h1
    have := h1.2
    simp at this
    subst this
    exact h1.1
  · intro h
    exact ⟨(k, n), List.mem_filter.2 ⟨h, by simp⟩, rfl⟩
section
variable {β : Type} (cnt : β → List Int → List Int → Bool) (n1 n2 : β → List Int)
def namesH (s : β) : List (Int × Int) := (n1 s).map (fun n => ((0 : Int), n)) ++ (n2 s).map (fun n => ((1 : Int), n))
/-- What is fresh. -/
def FreshOf (body : List β) (H F : List (Int × Int)) : Prop := ∀ h, h ∈ F ↔ (∃ s ∈ body, cnt s (hv 0 H) (hv 1 H) = true ∧ h ∈ namesH n1 n2 s) ∧ h ∉ H
/-- Numbers of two kinds that lie in all that is closed. -/
def InAll (body : List β) (H : List (Int × Int)) : Prop := (∀ h ∈ H, h.1 = 0 ∨ h.1 = 1) ∧ ∀ V A, Closed cnt n1 n2 body V A → (∀ x, (0, x) ∈ H → x ∈ V) ∧ ∀ x, (1, x) ∈ H → x ∈ A
variable {cnt n1 n2}
theorem mem_namesH {s : β} {h : Int × Int} : h ∈ namesH n1 n2 s ↔ (h.1 = 0 ∧ h.2 ∈ n1 s) ∨ (h.1 = 1 ∧ h.2 ∈ n2 s) := by
  obtain ⟨a, b⟩ := h
  simp only [namesH, List.mem_append, List.mem_map, Prod.mk.injEq]
  constructor
  · rintro (⟨n, hn, e1, e2⟩ | ⟨n, hn, e1, e2⟩)
    · exact .inl ⟨e1.symm, e2 ▸ hn⟩
    · exact .inr ⟨e1.symm, e2 ▸ hn⟩
  · rintro (⟨e1, hn⟩ | ⟨e1, hn⟩)
    · exact .inl ⟨b, hn, e1.symm, rfl⟩
    · exact .inr ⟨b, hn, e1.symm, rfl⟩
theorem inAll_nil (body : List β) : InAll cnt n1 n2 body [] := ⟨fun _ h => (by cases h), fun _ _ _ => ⟨fun _ h => (by cases h), fun _ h => (by cases h)⟩⟩
theorem inAll_more (hm : CntMono cnt) {body : List β} {H F H' : List (Int × Int)} (h : InAll cnt n1 n2 body H) (hf : FreshOf cnt n1 n2 body H F) (he : ∀ x, x ∈ H' ↔ x ∈ H ∨ x ∈ F) : InAll cnt n1 n2 body H' := by
  refine ⟨fun x hx => ?_, fun V A hc => ?_⟩
  · rcases (he x).1 hx with hx | hx
    · exact h.1 x hx
    · obtain ⟨⟨s, _, _, hn⟩, _⟩ := (hf x).1 hx
      rcases mem_namesH.1 hn with ⟨e, _⟩ | ⟨e, _⟩
      · exact .inl e
      · exact .inr e
  · have hin := h.2 V A hc
    have hst : ∀ s ∈ body, cnt s (hv 0 H) (hv 1 H) = true → (∀ x ∈ n1 s, x ∈ V) ∧ ∀ x ∈ n2 s, x ∈ A := fun s hs hcs => hc s hs (hm s _ _ _ _ (fun x hx => hin.1 x (mem_hv.1 hx)) (fun x hx => hin.2 x (mem_hv.1 hx)) hcs)
    constructor
    · intro x hx
      rcases (he _).1 hx with hx | hx
      · exact hin.1 x hx
      · obtain ⟨⟨s, hs, hcs, hn⟩, _⟩ := (hf _).1 hx
        rcases mem_namesH.1 hn with ⟨_, hn⟩ | ⟨e, _⟩
        · exact (hst s hs hcs).1 x hn
        · exact absurd (show (0 : Int) = 1 from e) (by decide)
    · intro x hx
      rcases (he _).1 hx with hx | hx
      · exact hin.2 x hx
      · obtain ⟨⟨s, hs, hcs, hn⟩, _⟩ := (hf _).1 hx
        rcases mem_namesH.1 hn with ⟨e, _⟩ | ⟨_, hn⟩
        · exact absurd (show (1 : Int) = 0 from e) (by decide)
        · exact (hst s hs hcs).2 x hn
theorem fresh_nil {body : List β} {H : List (Int × Int)} (hf : FreshOf cnt n1 n2 body H []) : Closed cnt n1 n2 body (hv 0 H) (hv 1 H) := by
  intro s hs hcs
  have : ∀ h ∈ namesH n1 n2 s, h ∈ H := fun h hn => by
    by_cases hh : h ∈ H
    · exact hh
    · have := (hf h).2 ⟨⟨s, hs, hcs, hn⟩, hh⟩
      cases this
  exact ⟨fun x hx => mem_hv.2 (this _ (mem_namesH.2 (.inl ⟨rfl, hx⟩))), fun x hx => mem_hv.2 (this _ (mem_namesH.2 (.inr ⟨rfl, hx⟩)))⟩
/-- Both ways lead to one answer. -/
theorem need_one (hm : CntMono cnt) {body : List β} {u1 u2 : Nat} (hb : ∀ s ∈ body, (∀ x ∈ n1 s, 0 ≤ x ∧ x < (u1 : Int)) ∧ ∀ x ∈ n2 s, 0 ≤ x ∧ x < (u2 : Int)) {H : List (Int × Int)} (h : InAll cnt n1 n2 body H) (hf : FreshOf cnt n1 n2 body H []) :
    riseL (hv 0 H) = (itN cnt n1 n2 body (u1 + u2 + 1)).1 ∧ riseL (hv 1 H) = (itN cnt n1 n2 body (u1 + u2 + 1)).2 := by
  have hc := itN_closed hm hb
  have hl := itN_in hm (fresh_nil hf) (u1 + u2 + 1)
  have hi := h.2 _ _ hc
  have hr := itN_rise (cnt := cnt) (n1 := n1) (n2 := n2) body (u1 + u2 + 1)
  constructor
  · exact (riseL_eq hr.1 (fun x => ⟨fun hx => hl.1 x hx, fun hx => hi.1 x (mem_hv.1 hx)⟩)).symm
  · exact (riseL_eq hr.2 (fun x => ⟨fun hx => hl.2 x hx, fun hx => hi.2 x (mem_hv.1 hx)⟩)).symm
/-- How many names are not there yet. -/
def gapN (univ H : List (Int × Int)) : Nat := (univ.filter (fun h => decide (h ∉ H))).length
theorem gap_less {univ H H' : List (Int × Int)} (hs : ∀ x ∈ H, x ∈ H') {h : Int × Int} (hu : h ∈ univ) (h0 : h ∉ H) (h1 : h ∈ H') : gapN univ H' < gapN univ H := by
  unfold gapN
  refine filter_lt (fun h => decide (h ∉ H)) (fun h => decide (h ∉ H')) (fun x hx => ?_) h ?_ ?_ univ hu
  · simp at hx ⊢; exact fun hh => hx (hs x hh)
  · simpa using h0
  · simpa using h1
end
end Go.Proofs.YtbnpoliogldohaaGreat
