/- Joined texts of this proof (InRound, EachInput, CloneInts, CloneRows), in build order. -/
import Derived.Test.YtbnpoliogldohaaGreatS40
import Derived.StillTailTactics
import Derived.Test.YtbnpoliogldohaaGreatS38
import Derived.Test.YtbnpoliogldohaaGreatS39
import Derived.Test.YtbnpoliogldohaaGreatS14
import Derived.Test.YtbnpoliogldohaaGreatS36
import Derived.Test.YtbnpoliogldohaaGreatS32
/- A region that draws its order, within a round of a range over a function: its reads in the text's order, its last step behind them. -/
namespace Go.Proofs.YtbnpoliogldohaaGreat
open Go.RowKit Go.Shelf

section
variable {P : Program} {ops : Array Oper} {Q : Exit → Act → World → Prop}
end
end Go.Proofs.YtbnpoliogldohaaGreat
/- The contracts of the program's countOn and eachInput. -/
namespace Go.Proofs.YtbnpoliogldohaaGreat
open Go.RowKit Go.Shelf
attribute [local go_sem] Oper.semAt_some

theorem OwnI.only {w w' : World} {B n c lo hi : Nat} {a : Option Addr} {ts : List Tm} (h : OwnI w B a n c ts) (hs : Span lo hi w w') (hv : ∀ g, (Value.slice a n c).ownBlock = some g → g < lo ∨ hi ≤ g) : OwnI w' B a n c ts := ⟨ownsRow_span h.1 hs hv, h.2⟩
theorem Span.drewN {lo hi : Nat} (W : World) (q : Nat) : Span lo hi W (W.drewN q) := ⟨rfl, rfl, rfl, Nat.le_refl _, fun _ _ _ => rfl⟩
/-- What yield is handed: the number, and the values' slice. -/
structure EIn where
  k : Nat
  a : Option Addr
  c : Nat
def encE (L : Nat) (x : EIn) : Array Value := #[.int .i64 (x.k : Int), .slice x.a L x.c]
/-- What holds of it: the values are those of the number. -/
def infoE (ms : List Int) (L lo hi : Nat) (x : EIn) (W : World) : Prop := Own W lo x.a L x.c (digs ms x.k) ∧ (∀ g, (Value.slice x.a L x.c).ownBlock = some g → g < hi) ∧ (x.k : Int) < prodL ms ∧ ∃ g, x.a = some ⟨g, 0, none⟩
theorem OwnI.stay {lo hi B n c : Nat} {a : Option Addr} {ts : List Tm} {A C : World} (h : OwnI A B a n c ts) (hB : lo ≤ B) (hv : ∀ g, (Value.slice a n c).ownBlock = some g → g < hi) (hs : Stay lo hi A C) : OwnI C B a n c ts := by
  refine ⟨⟨h.1.1, ?_⟩, h.2⟩
  rcases h.1.2 with hn | ⟨g, cap, cur, e, hb, hg, r⟩
  · exact .inl hn
  · exact .inr ⟨g, cap, cur, e, hb, (hs g (by omega) (hv g (by rw [e]; rfl))).trans hg, r⟩
theorem Own.stay {lo hi B n c : Nat} {a : Option Addr} {zs : List Int} {A C : World} (h : Own A B a n c zs) (hB : lo ≤ B) (hv : ∀ g, (Value.slice a n c).ownBlock = some g → g < hi) (hs : Stay lo hi A C) : Own C B a n c zs := by
  refine ⟨⟨h.1.1, ?_⟩, h.2⟩
  rcases h.1.2 with hn | ⟨g, cap, cur, e, hb, hg, r⟩
  · exact .inl hn
  · exact .inr ⟨g, cap, cur, e, hb, (hs g (by omega) (hv g (by rw [e]; rfl))).trans hg, r⟩
end Go.Proofs.YtbnpoliogldohaaGreat
/- The contract of slices.Clone at numbers, and of the model's l7At. -/
namespace Go.Proofs.YtbnpoliogldohaaGreat
open Go.RowKit

set_option maxHeartbeats 400000 in
theorem cloneInts_any (a : Option Addr) (n c : Nat) (zs : List Int) (w : World) (h : Ints w a n zs) :
    Calls Tryz.prog 106 #[.slice a n c] w (MadeInts w zs) := by
  have qT : ∀ (w : World) (a : Option Addr) (n c n' c' : Nat), (binOp .eql 25 (.slice a n c) (.slice none n' c')).run Tryz.prog w = .ok (.bool a.isNone) w := fun w a n c n' c' => Lib.run_eql_slice_nil w _ _ a n c n' c' Tryz.underlying25
  have hn := h.2.1
  cases a with
  | none =>
    have hn0 : n = 0 := by
      rcases Nat.eq_zero_or_pos n with h0 | h0
      · exact h0
      · obtain ⟨b, o, e, _⟩ := h.2.2.2 h0
        cases e
    subst hn0
    have hvs : zs = [] := List.eq_nil_of_length_eq_zero h.1
    subst hvs
    go_enter Tryz.func106, Tryz.ntmps106
    go_wp2
    go_ret
    exact ⟨none, 0, 0, rfl, own_nil _ _, Below.refl _ _⟩
  | some ad =>
    have hb : Below w.heap.size w (w.alloc (.cells #[] 2)) := (Below.refl _ _).alloc (Nat.le_refl _) _
    have HI := Lib.hid (h.below hb)
    have HE := Lib.hid (own_empty w w.heap.size (Nat.le_refl _))
    have HB := Lib.hid hb
    clear h hb
    go_enter Tryz.func106, Tryz.ntmps106
    go_wp2_with (at_builtin; refine wpList_concat _ rfl _ _ rfl w.heap.size _ 0 0 [] rfl HE.out _ _ _ zs rfl HI.out (by omega) (by simp) ?_)
    intro a1 c1 w1 hown hgr
    have hbw := below_push HB.out HE.out (by simp) hgr
    have hown : Own w1 w.heap.size a1 n c1 zs := by simpa using hown
    go_wp2
    go_ret
    exact ⟨a1, n, c1, by simp, hown, hbw⟩
end Go.Proofs.YtbnpoliogldohaaGreat
/- The contracts of slices.Clone at Terms and at Inputs. -/
namespace Go.Proofs.YtbnpoliogldohaaGreat
open Go.RowKit

theorem terms_newsG {w : World} {ad : Addr} {n : Nat} {ts : List Tm} (h : Terms w (some ad) n ts) : ∀ j u, (flatV ts)[j]? = some u → w.cell? (ad.add j) = some u := by
  rcases Nat.eq_zero_or_pos n with h0 | h0
  · subst h0
    have : ts = [] := List.eq_nil_of_length_eq_zero h.1
    subst this
    intro j u hj
    simp [flatV] at hj
  · obtain ⟨b, o, e, _⟩ := h.2.2.2 h0
    injection e with e
    subst e
    exact terms_news h
set_option maxHeartbeats 800000 in
theorem cloneTerms_any (a : Option Addr) (n c : Nat) (ts : List Tm) (w : World) (h : Terms w a n ts) :
    Calls Tryz.prog 104 #[.slice a n c] w (MadeT w ts) := by
  have qT : ∀ (w : World) (a : Option Addr) (n c n' c' : Nat), (binOp .eql 71 (.slice a n c) (.slice none n' c')).run Tryz.prog w = .ok (.bool a.isNone) w := fun w a n c n' c' => Lib.run_eql_slice_nil w _ _ a n c n' c' Tryz.underlying71
  have hn := h.2.1
  cases a with
  | none =>
    have hn0 : n = 0 := by
      rcases Nat.eq_zero_or_pos n with h0 | h0
      · exact h0
      · obtain ⟨b, o, e, _⟩ := h.2.2.2 h0
        cases e
    subst hn0
    have hvs : ts = [] := List.eq_nil_of_length_eq_zero h.1
    subst hvs
    go_enter Tryz.func104, Tryz.ntmps104
    go_wp2
    go_ret
    exact ⟨none, 0, 0, rfl, ownT_nil _ _, Below.refl _ _⟩
  | some ad =>
    have hb : Below w.heap.size w (w.alloc (.cells #[] 138)) := (Below.refl _ _).alloc (Nat.le_refl _) _
    have HI := Lib.hid (h.below (Nat.le_refl _) hb)
    have HE := Lib.hid (ownT_empty w w.heap.size (Nat.le_refl _))
    have HB := Lib.hid hb
    clear h hb
    go_enter Tryz.func104, Tryz.ntmps104
    go_wp2_with (at_builtin; refine wpList_pushG _ rfl _ _ 71 138 (.agg #[.int .i64 0, .int .i64 0]) 2 16 rfl Tryz.underlying71 info_term rfl (by omega) w.heap.size _ 0 0 (flatV []) rfl HE.out.1 ad n c (flatV ts) rfl (by rw [flatV_len, HI.out.1]) (terms_newsG HI.out) (flatV_one ts) (by unfold maxLen; omega) (by omega) (by simp) ?_)
    intro a1 c1 w1 hown hgr
    have hbw := HB.out.trans (hgr.below (by simp) (fun g e => by simp [Value.ownBlock] at e; omega))
    have HO : Hid (OwnT w1 w.heap.size a1 n c1 ts) := Lib.hid ⟨by simpa [flatV] using hown, hn, HI.out.2.2.1⟩
    have HF := Lib.hid hbw
    clear hown hgr hbw
    go_wp2
    go_ret
    exact ⟨a1, n, c1, by simp, HO.out, HF.out⟩
theorem ownI_empty (w : World) (B : Nat) (hB : B ≤ w.heap.size) : OwnI (w.alloc (.cells #[] 68)) B (some ⟨w.heap.size, 0, none⟩) 0 0 [] := ⟨World.ownsRow_lit w #[] 0 hB (by unfold maxLen; omega) rfl, by omega, fun t ht => by simp at ht⟩
set_option maxHeartbeats 800000 in
theorem cloneInputs_any (a : Option Addr) (n c : Nat) (ts : List Tm) (w : World) (h : Terms w a n ts) :
    Calls Tryz.prog 105 #[.slice a n c] w (MadeI w ts) := by
  have qT : ∀ (w : World) (a : Option Addr) (n c n' c' : Nat), (binOp .eql 24 (.slice a n c) (.slice none n' c')).run Tryz.prog w = .ok (.bool a.isNone) w := fun w a n c n' c' => Lib.run_eql_slice_nil w _ _ a n c n' c' Tryz.underlying24
  have hn := h.2.1
  cases a with
  | none =>
    have hn0 : n = 0 := by
      rcases Nat.eq_zero_or_pos n with h0 | h0
      · exact h0
      · obtain ⟨b, o, e, _⟩ := h.2.2.2 h0
        cases e
    subst hn0
    have hvs : ts = [] := List.eq_nil_of_length_eq_zero h.1
    subst hvs
    go_enter Tryz.func105, Tryz.ntmps105
    go_wp2
    go_ret
    exact ⟨none, 0, 0, rfl, ownI_nil _ _, Below.refl _ _⟩
  | some ad =>
    have hb : Below w.heap.size w (w.alloc (.cells #[] 68)) := (Below.refl _ _).alloc (Nat.le_refl _) _
    have HI := Lib.hid (h.below (Nat.le_refl _) hb)
    have HE := Lib.hid (ownI_empty w w.heap.size (Nat.le_refl _))
    have HB := Lib.hid hb
    clear h hb
    go_enter Tryz.func105, Tryz.ntmps105
    go_wp2_with (at_builtin; refine wpList_pushG _ rfl _ _ 24 68 (.agg #[.int .i64 0, .int .i64 0]) 2 16 rfl Tryz.underlying24 info_input rfl (by omega) w.heap.size _ 0 0 (flatV []) rfl HE.out.1 ad n c (flatV ts) rfl (by rw [flatV_len, HI.out.1]) (terms_newsG HI.out) (flatV_one ts) (by unfold maxLen; omega) (by omega) (by simp) ?_)
    intro a1 c1 w1 hown hgr
    have hbw := HB.out.trans (hgr.below (by simp) (fun g e => by simp [Value.ownBlock] at e; omega))
    have HO : Hid (OwnI w1 w.heap.size a1 n c1 ts) := Lib.hid ⟨by simpa [flatV] using hown, hn, HI.out.2.2.1⟩
    have HF := Lib.hid hbw
    clear hown hgr hbw
    go_wp2
    go_ret
    exact ⟨a1, n, c1, by simp, HO.out, HF.out⟩
end Go.Proofs.YtbnpoliogldohaaGreat
