/- Words for slices of slices of Terms: reading, and of the call's own; comparison, marks. -/
import Derived.Test.YtdippnnhibgjoaaGrows
namespace Go.Proofs.Ytdippnnhibgjoaa
open Go.RowKit

/-- A slice's three: its address, its length, its capacity. -/
abbrev Sl := Option Addr × Nat × Nat
def slV (r : Sl) : Value := .slice r.1 r.2.1 r.2.2
def slAt (rs : List Sl) (i : Nat) : Sl := rs.getD i (none, 0, 0)
def tsAt (tss : List (List Tm)) (i : Nat) : List Tm := tss.getD i []

/-- The slice '.slice a n c' of slices of Terms reads as tss; rs are its slices. -/
def TermsSS (w : World) (a : Option Addr) (n : Nat) (rs : List Sl) (tss : List (List Tm)) : Prop :=
  rs.length = n ∧ tss.length = n ∧ (0 < n → ∃ b o, a = some ⟨b, o, none⟩ ∧ b < w.heap.size ∧ ∀ i, i < n → w.cell? ⟨b, o + i, none⟩ = some (slV (slAt rs i))) ∧
  ∀ i, i < n → Terms w (slAt rs i).1 (slAt rs i).2.1 (tsAt tss i)
theorem TermsSS.at_ {w : World} {a : Option Addr} {n : Nat} {rs : List Sl} {tss : List (List Tm)} (h : TermsSS w a n rs tss) {k : Nat} (hk : k < n) :
    ∃ b o a1 n1 c1, a = some ⟨b, o, none⟩ ∧ b < w.heap.size ∧ Hid (slAt rs k = (a1, n1, c1)) ∧ w.cell? ⟨b, o + k, none⟩ = some (.slice a1 n1 c1) ∧ Terms w a1 n1 (tsAt tss k) := by
  obtain ⟨_, _, h3, h4⟩ := h
  obtain ⟨b, o, rfl, hb, hc⟩ := h3 (by omega)
  exact ⟨b, o, _, _, _, rfl, hb, rfl, hc k hk, h4 k hk⟩
theorem TermsSS.below {w w' : World} {a : Option Addr} {n : Nat} {rs : List Sl} {tss : List (List Tm)} (h : TermsSS w a n rs tss) (hb : Below w.heap.size w w') : TermsSS w' a n rs tss := by
  obtain ⟨h1, h2, h3, h4⟩ := h
  refine ⟨h1, h2, fun hp => ?_, fun i hi => (h4 i hi).below (Nat.le_refl _) hb⟩
  obtain ⟨b, o, rfl, hbl, hc⟩ := h3 hp
  exact ⟨b, o, rfl, Nat.lt_of_lt_of_le hbl hb.size, fun i hi => (hb.cell hbl).trans (hc i hi)⟩

/-- .. of the call's own, from block B on; no two of its slices in one block. -/
def OwnSS (w : World) (B : Nat) (a : Option Addr) (n c : Nat) (rs : List Sl) (tss : List (List Tm)) : Prop :=
  w.ownsRow B 35 1 (.slice a n c) n (rs.map slV) ∧ n ≤ 3000 ∧ tss.length = n ∧
  (∀ i, i < n → OwnT w B (slAt rs i).1 (slAt rs i).2.1 (slAt rs i).2.2 (tsAt tss i)) ∧
  (∀ i j g, i < n → j < n → (slV (slAt rs i)).ownBlock = some g → (slV (slAt rs j)).ownBlock = some g → i = j)

section
variable {w w' : World} {B : Nat} {a : Option Addr} {n c : Nat} {rs : List Sl} {tss : List (List Tm)}
theorem OwnSS.len (h : OwnSS w B a n c rs tss) : rs.length = n := by have := h.1.1; simpa using this
theorem OwnSS.reads (h : OwnSS w B a n c rs tss) : TermsSS w a n rs tss := by
  have hlen := h.len
  obtain ⟨ho, hn, ht, hi, _⟩ := h
  refine ⟨hlen, ht, fun hp => ?_, fun i h' => (hi i h').terms⟩
  rcases ho.2 with ⟨_, h0⟩ | ⟨g, cap, cur, e, _, hh, _⟩
  · exact absurd hp (by omega)
  · have ea : a = some ⟨g, 0, none⟩ := by injection e
    subst ea
    refine ⟨g, 0, rfl, (ho.lt g rfl).2, fun i h' => ?_⟩
    rw [Nat.zero_add, ho.cellAt i (by omega)]
    simp [slAt, List.getD_eq_getElem?_getD, List.getElem?_eq_getElem (show i < rs.length by omega)]
theorem OwnSS.below (h : OwnSS w B a n c rs tss) (hb : Below w.heap.size w w') : OwnSS w' B a n c rs tss :=
  ⟨h.1.kept (row := none) ⟨hb.os, hb.tape, hb.output, hb.size, fun k hk _ => hb.block k hk⟩ (by cases a <;> simp [Value.ownBlock]), h.2.1, h.2.2.1, fun i hi => (h.2.2.2.1 i hi).below hb, h.2.2.2.2⟩
theorem OwnSS.base {B' : Nat} (h : OwnSS w B a n c rs tss) (hB : B' ≤ B) : OwnSS w B' a n c rs tss := by
  refine ⟨⟨h.1.1, ?_⟩, h.2.1, h.2.2.1, fun i hi => (h.2.2.2.1 i hi).base hB, h.2.2.2.2⟩
  rcases h.1.2 with hn | ⟨g, cap, cur, e, hb, r⟩
  · exact .inl hn
  · exact .inr ⟨g, cap, cur, e, by omega, r⟩
end
theorem ownSS_nil (w : World) (B : Nat) : OwnSS w B none 0 0 [] [] := ⟨World.ownsRow_nil _ _ _ _, by omega, rfl, fun i hi => absurd hi (by omega), fun i j g hi => absurd hi (by omega)⟩
theorem ownSS_empty (w : World) (B : Nat) (hB : B ≤ w.heap.size) : OwnSS (w.alloc (.cells #[] 35)) B (some ⟨w.heap.size, 0, none⟩) 0 0 [] [] :=
  ⟨World.ownsRow_lit w #[] 0 hB (by unfold maxLen; omega) rfl, by omega, rfl, fun i hi => absurd hi (by omega), fun i j g hi => absurd hi (by omega)⟩
def MadeSS (w : World) (tss : List (List Tm)) (e : Ending) (w' : World) : Prop :=
  ∃ a n c rs, e = .returned (.slice a n c) ∧ OwnSS w' w.heap.size a n c rs tss ∧ Below w.heap.size w w'

/-- Rows of different element types lie in different blocks. -/
theorem own_kinds {w : World} {B B' size size' n n' : Nat} {e e' : TypeId} {v v' : Value} {xs xs' : List Value} (h : w.ownsRow B e size v n xs) (h' : w.ownsRow B' e' size' v' n' xs') (hne : e ≠ e') {g : Nat} (hg : v.ownBlock = some g) : v'.ownBlock ≠ some g := by
  intro hg'
  obtain ⟨c1, f1, e1⟩ := Go.Lib.ownsRow_kind h g hg
  obtain ⟨c2, f2, e2⟩ := Go.Lib.ownsRow_kind h' g hg'
  rw [e1] at e2
  injection e2 with e2
  injection e2 with _ e2
  exact hne e2
theorem info_terms : (Try.prog.info? 35).map (fun i => (i.zero, i.size, i.bytes)) = some (some (.slice none 0 0), 1, 24) := by kernel_rfl
theorem getD_left {α : Type} (xs ys : List α) (d : α) (i : Nat) (h : i < xs.length) : (xs ++ ys).getD i d = xs.getD i d := by
  rw [List.getD_eq_getElem?_getD, List.getD_eq_getElem?_getD, List.getElem?_append_left h]
theorem getD_last {α : Type} (xs : List α) (y d : α) (i : Nat) (h : i = xs.length) : (xs ++ [y]).getD i d = y := by
  subst h; rw [List.getD_eq_getElem?_getD, List.getElem?_append_right (Nat.le_refl _)]; simp

/-- One slice more behind: the outer row has grown in its own block or into a new one. -/
theorem ownSS_push {w0 w w' : World} {B : Nat} {a : Option Addr} {n c : Nat} {rs : List Sl} {tss : List (List Tm)} {o : Obj} {a1 : Option Addr} {c1 : Nat} {r : Sl} {ts : List Tm}
    (h0 : OwnSS w0 B a n c rs tss) (hb : Below w0.heap.size w0 w) (hr : OwnT w w0.heap.size r.1 r.2.1 r.2.2 ts) (hB : B ≤ w0.heap.size)
    (hg : (w.alloc o).grownBy w' (Value.slice a n c).ownBlock) (hown : w'.ownsRow B 35 1 (.slice a1 (n + 1) c1) (n + 1) (rs.map slV ++ [slV r])) (hn : n + 1 ≤ 3000) :
    OwnSS w' B a1 (n + 1) c1 (rs ++ [r]) (tss ++ [ts]) := by
  have hl := h0.len
  have h1 := h0.below hb
  obtain ⟨h11, h12, h13, h14, h15⟩ := h1
  have hkeep : ∀ {B' : Nat} {x : Sl} {us : List Tm}, OwnT w B' x.1 x.2.1 x.2.2 us → OwnT w' B' x.1 x.2.1 x.2.2 us := fun hx =>
    (hx.alloc o).apart hg (fun g hgg => own_kinds (hx.alloc o).1 (h11.alloc o) (by decide) hgg)
  refine ⟨by rw [List.map_append]; exact hown, hn, by simp [h13], fun i hi => ?_, fun i j g hi hj hgi hgj => ?_⟩
  · rcases Nat.lt_or_ge i n with hlt | hge
    · have e1 : slAt (rs ++ [r]) i = slAt rs i := getD_left _ _ _ _ (by omega)
      have e2 : tsAt (tss ++ [ts]) i = tsAt tss i := getD_left _ _ _ _ (by omega)
      rw [e1, e2]
      exact hkeep (h14 i hlt)
    · have e1 : slAt (rs ++ [r]) i = r := getD_last _ _ _ _ (by omega)
      have e2 : tsAt (tss ++ [ts]) i = ts := getD_last _ _ _ _ (by omega)
      rw [e1, e2]
      exact hkeep (hr.base hB)
  · have hnew : ∀ g, (slV r).ownBlock = some g → w0.heap.size ≤ g := fun g hg => (hr.block g hg).1
    have hold : ∀ i, i < n → ∀ g, (slV (slAt rs i)).ownBlock = some g → g < w0.heap.size := fun i hi g hg => ((h0.2.2.2.1 i hi).block g hg).2
    rcases Nat.lt_or_ge i n with hi1 | hi1 <;> rcases Nat.lt_or_ge j n with hj1 | hj1
    · rw [show slAt (rs ++ [r]) i = slAt rs i from getD_left _ _ _ _ (by omega)] at hgi
      rw [show slAt (rs ++ [r]) j = slAt rs j from getD_left _ _ _ _ (by omega)] at hgj
      exact h15 i j g hi1 hj1 hgi hgj
    · rw [show slAt (rs ++ [r]) i = slAt rs i from getD_left _ _ _ _ (by omega)] at hgi
      rw [show slAt (rs ++ [r]) j = r from getD_last _ _ _ _ (by omega)] at hgj
      have := hold i hi1 g hgi
      have := hnew g hgj
      omega
    · rw [show slAt (rs ++ [r]) j = slAt rs j from getD_left _ _ _ _ (by omega)] at hgj
      rw [show slAt (rs ++ [r]) i = r from getD_last _ _ _ _ (by omega)] at hgi
      have := hold j hj1 g hgj
      have := hnew g hgi
      omega
    · omega

end Go.Proofs.Ytdippnnhibgjoaa
