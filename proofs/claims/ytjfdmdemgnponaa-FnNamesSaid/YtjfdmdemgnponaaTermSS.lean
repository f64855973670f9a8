/- Words for slices of slices of Terms: reading, and of the call's own; comparison, marks. -/
import Derived.Test.YtjfdmdemgnponaaGrows
namespace Go.Proofs.Ytjfdmdemgnponaa
open Go.RowKit

/-- A slice's three: its address, its length, its capacity. -/
abbrev Sl := Option Addr × Nat × Nat
def slV (r : Sl) : Value := .slice r.1 r.2.1 r.2.2
def slAt (rs : List Sl) (i : Nat) : Sl := rs.getD i (none, 0, 0)
def tsAt (tss : List (List Tm)) (i : Nat) : List Tm := tss.getD i []

/-- The slice '.slice a n c' of slices of Terms reads as tss; rs are its slices. -/
def TermsSS (w : World) (a : Option Addr) (n : Nat) (rs : List Sl) (tss : List (List Tm)) : Prop :=
  rs.length = n ∧ tss.length = n ∧ (0 < n → ∃ b o, a = some ⟨b, o, none⟩ ∧ b < w.heap.size ∧ ∀ i, i < n → w.cell? ⟨b, o + i, none⟩ = some (slV (slAt rs i))) ∧
  ∀ i, i < n → Terms w (slAt rs i).1 (slAt rs i).2.1 (tsAt tss i)
theorem TermsSS.at_ {w : World} {a : Option Addr} {n : Nat} {rs : List Sl} {tss : List (List Tm)} (h : TermsSS w a n rs tss) {k : Nat} (hk : k < n) :
    ∃ b o a1 n1 c1, a = some ⟨b, o, none⟩ ∧ b < w.heap.size ∧ Hid (slAt rs k = (a1, n1, c1)) ∧ w.cell? ⟨b, o + k, none⟩ = some (.slice a1 n1 c1) ∧ Terms w a1 n1 (tsAt tss k) := by
  obtain ⟨_, _, h3, h4⟩ := h
  obtain ⟨b, o, rfl, hb, hc⟩ := h3 (by omega)
  exact ⟨b, o, _, _, _, rfl, hb, rfl, hc k hk, h4 k hk⟩
theorem TermsSS.below {w w' : World} {a : Option Addr} {n : Nat} {rs : List Sl} {tss : List (List Tm)} (h : TermsSS w a n rs tss) (hb : Below w.heap.size w w') : TermsSS w' a n rs tss := by
  obtain ⟨h1, h2, h3, h4⟩ := h
  refine ⟨h1, h2, fun hp => ?_, fun i hi => (h4 i hi).below (Nat.le_refl _) hb⟩
  obtain ⟨b, o, rfl, hbl, hc⟩ := h3 hp
  exact ⟨b, o, rfl, Nat.lt_of_lt_of_le hbl hb.size, fun i hi => (hb.cell hbl).trans (hc i hi)⟩

/-- .. of the call's own, from block B on; no two of its slices in one block. -/
def OwnSS (w : World) (B : Nat) (a : Option Addr) (n c : Nat) (rs : List Sl) (tss : List (List Tm)) : Prop :=
  w.ownsRow B 24 1 (.slice a n c) n (rs.map slV) ∧ n ≤ 3000 ∧ tss.length = n ∧
  (∀ i, i < n → OwnT w B (slAt rs i).1 (slAt rs i).2.1 (slAt rs i).2.2 (tsAt tss i)) ∧
  (∀ i j g, i < n → j < n → (slV (slAt rs i)).ownBlock = some g → (slV (slAt rs j)).ownBlock = some g → i = j)

section
variable {w w' : World} {B : Nat} {a : Option Addr} {n c : Nat} {rs : List Sl} {tss : List (List Tm)}
theorem OwnSS.len (h : OwnSS w B a n c rs tss) : rs.length = n := by have := h.1.1; simpa using this
theorem OwnSS.reads (h : OwnSS w B a n c rs tss) : TermsSS w a n rs tss := by
  have hlen := h.len
  obtain ⟨ho, hn, ht, hi, _⟩ := h
  refine ⟨hlen, ht, fun hp => ?_, fun i h' => (hi i h').terms⟩
  rcases ho.2 with ⟨_, h0⟩ | ⟨g, cap, cur, e, _, hh, _⟩
  · exact absurd hp (by omega)
  · have ea : a = some ⟨g, 0, none⟩ := by injection e
    subst ea
    refine ⟨g, 0, rfl, (ho.lt g rfl).2, fun i h' => ?_⟩
    rw [Nat.zero_add, ho.cellAt i (by omega)]
    simp [slAt, List.getD_eq_getElem?_getD, List.getElem?_eq_getElem (show i < rs.length by omega)]
theorem OwnSS.below (h : OwnSS w B a n c rs tss) (hb : Below w.heap.size w w') : OwnSS w' B a n c rs tss :=
  ⟨h.1.kept (row := none) ⟨hb.os, hb.tape, hb.output, hb.size, fun k hk _ => hb.block k hk⟩ (by cases a <;> simp [Value.ownBlock]), h.2.1, h.2.2.1, fun i hi => (h.2.2.2.1 i hi).below hb, h.2.2.2.2⟩
theorem OwnSS.base {B' : Nat} (h : OwnSS w B a n c rs tss) (hB : B' ≤ B) : OwnSS w B' a n c rs tss := by
  refine ⟨⟨h.1.1, ?_⟩, h.2.1, h.2.2.1, fun i hi => (h.2.2.2.1 i hi).base hB, h.2.2.2.2⟩
  rcases h.1.2 with hn | ⟨g, cap, cur, e, hb, r⟩
  · exact .inl hn
  · exact .inr ⟨g, cap, cur, e, by omega, r⟩
end
theorem ownSS_nil (w : World) (B : Nat) : OwnSS w B none 0 0 [] [] := ⟨World.ownsRow_nil _ _ _ _, by omega, rfl, fun i hi => absurd hi (by omega), fun i j g hi => absurd hi (by omega)⟩
theorem ownSS_empty (w : World) (B : Nat) (hB : B ≤ w.heap.size) : OwnSS (w.alloc (.cells #[] 24)) B (some ⟨w.heap.size, 0, none⟩) 0 0 [] [] :=
  ⟨World.ownsRow_lit w #[] 0 hB (by unfold maxLen; omega) rfl, by omega, rfl, fun i hi => absurd hi (by omega), fun i j g hi => absurd hi (by omega)⟩
def MadeSS (w : World) (tss : List (List Tm)) (e : Ending) (w' : World) : Prop :=
  ∃ a n c rs, e = .returned (.slice a n c) ∧ OwnSS w' w.heap.size a n c rs tss ∧ Below w.heap.size w w'

/-- Rows of different element types lie in different blocks. -/
theorem own_kinds {w : World} {B B' size size' n n' : Nat} {e e' : TypeId} {v v' : Value} {xs xs' : List Value} (h : w.ownsRow B e size v n xs) (h' : w.ownsRow B' e' size' v' n' xs') (hne : e ≠ e') {g : Nat} (hg : v.ownBlock = some g) : v'.ownBlock ≠ some g := by
  intro hg'
  obtain ⟨c1, f1, e1⟩ := Go.Lib.ownsRow_kind h g hg
  obtain ⟨c2, f2, e2⟩ := Go.Lib.ownsRow_kind h' g hg'
  rw [e1] at e2
  injection e2 with e2
  injection e2 with _ e2
  exact hne e2
theorem info_terms : (Try.prog.info? 24).map (fun i => (i.zero, i.size, i.bytes)) = some (some (.slice none 0 0), 1, 24) := by kernel_rfl
theorem getD_left {α : Type} (xs ys : List α) (d : α) (i : Nat) (h : i < xs.length) : (xs ++ ys).getD i d = xs.getD i d := by
  rw [List.getD_eq_getElem?_getD, List.getD_eq_getElem?_getD, List.getElem?_append_left h]
theorem getD_last {α : Type} (xs : List α) (y d : α) (i : Nat) (h : i = xs.length) : (xs ++ [y]).getD i d = y := by
  subst h; rw [List.getD_eq_getElem?_getD, List.getElem?_append_right (Nat.le_refl _)]; simp

/-- One slice more behind: the outer row has grown in its own block or into a new one. -/
theorem ownSS_push {w0 w w' : World} {B : Nat} {a : Option Addr} {n c : Nat} {rs : List Sl} {tss : List (List Tm)} {o : Obj} {a1 : Option Addr} {c1 : Nat} {r : Sl} {ts : List Tm}
    (h0 : OwnSS w0 B a n c rs tss) (hb : Below w0.heap.size w0 w) (hr : OwnT w w0.heap.size r.1 r.2.1 r.2.2 ts) (hB : B ≤ w0.heap.size)
    (hg : (w.alloc o).grownBy w' (Value.slice a n c).ownBlock) (hown : w'.ownsRow B 24 1 (.slice a1 (n + 1) c1) (n + 1) (rs.map slV ++ [slV r])) (hn : n + 1 ≤ 3000) :
    OwnSS w' B a1 (n + 1) c1 (rs ++ [r]) (tss ++ [ts]) := by
  have hl := h0.len
  have h1 := h0.below hb
  obtain ⟨h11, h12, h13, h14, h15⟩ := h1
  have hkeep : ∀ {B' : Nat} {x : Sl} {us : List Tm}, OwnT w B' x.1 x.2.1 x.2.2 us → OwnT w' B' x.1 x.2.1 x.2.2 us := fun hx =>
    (hx.alloc o).apart hg (fun g hgg => own_kinds (hx.alloc o).1 (h11.alloc o) (by decide) hgg)
  refine ⟨by rw [List.map_append]; exact hown, hn, by simp [h13], fun i hi => ?_, fun i j g hi hj hgi hgj => ?_⟩
  · rcases Nat.lt_or_ge i n with hlt | hge
    · have e1 : slAt (rs ++ [r]) i = slAt rs i := getD_left _ _ _ _ (by omega)
      have e2 : tsAt (tss ++ [ts]) i = tsAt tss i := getD_left _ _ _ _ (by omega)
      rw [e1, e2]
      exact hkeep (h14 i hlt)
    · have e1 : slAt (rs ++ [r]) i = r := getD_last _ _ _ _ (by omega)
      have e2 : tsAt (tss ++ [ts]) i = ts := getD_last _ _ _ _ (by omega)
      rw [e1, e2]
      exact hkeep (hr.base hB)
  · have hnew : ∀ g, (slV r).ownBlock = some g → w0.heap.size ≤ g := fun g hg => (hr.block g hg).1
    have hold : ∀ i, i < n → ∀ g, (slV (slAt rs i)).ownBlock = some g → g < w0.heap.size := fun i hi g hg => ((h0.2.2.2.1 i hi).block g hg).2
    rcases Nat.lt_or_ge i n with hi1 | hi1 <;> rcases Nat.lt_or_ge j n with hj1 | hj1
    · rw [show slAt (rs ++ [r]) i = slAt rs i from getD_left _ _ _ _ (by omega)] at hgi
      rw [show slAt (rs ++ [r]) j = slAt rs j from getD_left _ _ _ _ (by omega)] at hgj
      exact h15 i j g hi1 hj1 hgi hgj
    · rw [show slAt (rs ++ [r]) i = slAt rs i from getD_left _ _ _ _ (by omega)] at hgi
      rw [show slAt (rs ++ [r]) j = r from getD_last _ _ _ _ (by omega)] at hgj
      have := hold i hi1 g hgi
      have := hnew g hgj
      omega
    · rw [show slAt (rs ++ [r]) j = slAt rs j from getD_left _ _ _ _ (by omega)] at hgj
      rw [show slAt (rs ++ [r]) i = r from getD_last _ _ _ _ (by omega)] at hgi
      have := hold j hj1 g hgj
      have := hnew g hgi
      omega
    · omega

def EqSS (xss yss : List (List Tm)) (k : Nat) : Prop := ∀ i, i < k → tsAt xss i = tsAt yss i
theorem EqSS.succ {xss yss : List (List Tm)} {k : Nat} (h : EqSS xss yss k) (e : tsAt xss k = tsAt yss k) : EqSS xss yss (k + 1) := by
  intro i hi
  rcases Nat.lt_or_ge i k with hlt | hge
  · exact h i hlt
  · have : i = k := by omega
    subst this; exact e
theorem eqSS_all {xss yss : List (List Tm)} (hl : xss.length = yss.length) (h : EqSS xss yss xss.length) : xss = yss := by
  apply List.ext_getElem hl
  intro i h1 h2
  have := h i h1
  simpa [tsAt, List.getD_eq_getElem?_getD, h1, h2] using this

set_option maxHeartbeats 800000 in
theorem eqTermSS_any (a b : Option Addr) (n m c d : Nat) (rs qs : List Sl) (xss yss : List (List Tm)) (w : World) (hx : TermsSS w a n rs xss) (hy : TermsSS w b m qs yss) (hbd : n ≤ 3000) (hbe : m ≤ 3000) :
    Calls Try.prog 28 #[.slice a n c, .slice b m d] w fun e w' => e = .returned (.bool (decide (xss = yss))) ∧ Below w.heap.size w w' := by
  have HL := Lib.hid hx.2.1
  have HM := Lib.hid hy.2.1
  by_cases hnm : n = m
  · subst hnm
    have hne0 : ((n : Int) != (n : Int)) = false := by simp
    go_enter Try.func28, Try.ntmps28
    go_wp2
    go_loopw [5] (fun i wr => ∃ k : Nat, k ≤ n ∧ i = .int .i64 k ∧ EqSS xss yss k ∧ Below w.heap.size w wr) (fun i _ => n - (intOf i).toNat)
    case atStart => exact ⟨0, Nat.zero_le _, rfl, fun i hi => absurd hi (by omega), Below.refl _ _⟩
    case round =>
      obtain ⟨k, hk, rfl, hg, hbel⟩ := hrel
      by_cases hlt : k < n
      · obtain ⟨b1, o1, a1, n1, c1, rfl, hb1, hxk, hc1, hT1⟩ := (hx.below hbel).at_ hlt
        obtain ⟨b2, o2, a2, n2, c2, rfl, hb2, hyk, hc2, hT2⟩ := (hy.below hbel).at_ hlt
        have f1 := lat_cell hb1 hc1
        have f2 := lat_cell hb2 hc2
        clear hc1 hc2
        obtain ⟨q, HQ⟩ : ∃ q, Hid (decide (tsAt xss k = tsAt yss k) = q) := ⟨_, rfl⟩
        have hcon : ∀ p : Lat wr, Calls Try.prog 25 #[.slice a1 n1 c1, .slice a2 n2 c2] p.wd fun e w' => e = .returned (.bool q) ∧ Below p.wd.heap.size p.wd w' := fun p => by
          rw [← HQ.out]; exact eqTermS_any _ _ _ _ _ _ _ _ _ (hT1.below (Nat.le_refl _) p.ok) (hT2.below (Nat.le_refl _) p.ok)
        have HC := Lib.hid hcon
        clear hcon hT1 hT2
        cases q with
        | true =>
          have HE := Lib.hid (of_decide_eq_true HQ.out)
          go_wp2
          refine wp_region_lat (by kernel_rfl) (by kernel_rfl) ?_
          repeat (quiet_step ((go_at_call 25; exact lat_calls (HC.out _))))
          refine wpQuiet_nil ?_
          intro _ hw'
          obtain ⟨⟨wq, hwq⟩, hw''⟩ := hw'
          subst hw''
          have ht := hbel.trans (hwq.mono hbel.size)
          clear f1 f2 HC
          go_wp2
          go_roundw
          case rel => exact ⟨k + 1, by omega, by go_num, hg.succ HE.out, ht⟩
          case measure => simp [intOf]; omega
        | false =>
          have HE := Lib.hid (of_decide_eq_false HQ.out)
          go_wp2
          refine wp_region_lat (by kernel_rfl) (by kernel_rfl) ?_
          repeat (quiet_step ((go_at_call 25; exact lat_calls (HC.out _))))
          refine wpQuiet_nil ?_
          intro _ hw'
          obtain ⟨⟨wq, hwq⟩, hw''⟩ := hw'
          subst hw''
          have ht := hbel.trans (hwq.mono hbel.size)
          clear f1 f2 HC
          go_wp2
          go_ret
          exact ⟨ret_bool (decide_eq_false (fun h => HE.out (by rw [h]))).symm, ht⟩
      · obtain rfl : n = k := by omega
        go_wp2
        go_ret
        exact ⟨ret_bool (decide_eq_true (eqSS_all (HL.out.trans HM.out.symm) (by rw [HL.out]; exact hg))).symm, hbel⟩
  · have hne : ((n : Int) != (m : Int)) = true := by simp; omega
    go_enter Try.func28, Try.ntmps28
    go_wp2
    go_ret
    exact ⟨ret_bool (decide_eq_false (fun h => hnm (by rw [← HL.out, ← HM.out, h]))).symm, Below.refl _ _⟩
end Go.Proofs.Ytjfdmdemgnponaa
