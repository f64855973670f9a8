/- Joined texts of this proof (InRound, EachInput, CloneInts, ImplIn, ImplAt, SpecIn), in build order. -/
import Derived.Test.YtbnpoliogldohaaGreatJ23
import Derived.StillTailTactics
import Derived.Test.YtbnpoliogldohaaGreatJ21
import Derived.Test.YtbnpoliogldohaaGreatJ22
import Derived.Test.YtbnpoliogldohaaGreatJ14
import Derived.Test.YtbnpoliogldohaaGreatJ17
import Derived.Test.YtbnpoliogldohaaGreatJ16
import Derived.Test.YtbnpoliogldohaaGreatJ20
import Derived.Test.YtbnpoliogldohaaGreatJ10
/- A region that draws its order, within a round of a range over a function: its reads in the text's order, its last step behind them. -/
namespace Go.Proofs.YtbnpoliogldohaaGreat
open Go.RowKit Go.Shelf

section
variable {P : Program} {ops : Array Oper} {Q : Exit → Act → World → Prop}
end
end Go.Proofs.YtbnpoliogldohaaGreat
/- The contracts of the program's countOn and eachInput. -/
namespace Go.Proofs.YtbnpoliogldohaaGreat
open Go.RowKit Go.Shelf
attribute [local go_sem] Oper.semAt_some

theorem OwnI.only {w w' : World} {B n c lo hi : Nat} {a : Option Addr} {ts : List Tm} (h : OwnI w B a n c ts) (hs : Span lo hi w w') (hv : ∀ g, (Value.slice a n c).ownBlock = some g → g < lo ∨ hi ≤ g) : OwnI w' B a n c ts := ⟨ownsRow_span h.1 hs hv, h.2⟩
theorem Span.drewN {lo hi : Nat} (W : World) (q : Nat) : Span lo hi W (W.drewN q) := ⟨rfl, rfl, rfl, Nat.le_refl _, fun _ _ _ => rfl⟩
/-- What yield is handed: the number, and the values' slice. -/
structure EIn where
  k : Nat
  a : Option Addr
  c : Nat
def encE (L : Nat) (x : EIn) : Array Value := #[.int .i64 (x.k : Int), .slice x.a L x.c]
/-- What holds of it: the values are those of the number. -/
def infoE (ms : List Int) (L lo hi : Nat) (x : EIn) (W : World) : Prop := Own W lo x.a L x.c (digs ms x.k) ∧ (∀ g, (Value.slice x.a L x.c).ownBlock = some g → g < hi) ∧ (x.k : Int) < prodL ms ∧ ∃ g, x.a = some ⟨g, 0, none⟩
theorem OwnI.stay {lo hi B n c : Nat} {a : Option Addr} {ts : List Tm} {A C : World} (h : OwnI A B a n c ts) (hB : lo ≤ B) (hv : ∀ g, (Value.slice a n c).ownBlock = some g → g < hi) (hs : Stay lo hi A C) : OwnI C B a n c ts := by
  refine ⟨⟨h.1.1, ?_⟩, h.2⟩
  rcases h.1.2 with hn | ⟨g, cap, cur, e, hb, hg, r⟩
  · exact .inl hn
  · exact .inr ⟨g, cap, cur, e, hb, (hs g (by omega) (hv g (by rw [e]; rfl))).trans hg, r⟩
theorem Own.stay {lo hi B n c : Nat} {a : Option Addr} {zs : List Int} {A C : World} (h : Own A B a n c zs) (hB : lo ≤ B) (hv : ∀ g, (Value.slice a n c).ownBlock = some g → g < hi) (hs : Stay lo hi A C) : Own C B a n c zs := by
  refine ⟨⟨h.1.1, ?_⟩, h.2⟩
  rcases h.1.2 with hn | ⟨g, cap, cur, e, hb, hg, r⟩
  · exact .inl hn
  · exact .inr ⟨g, cap, cur, e, hb, (hs g (by omega) (hv g (by rw [e]; rfl))).trans hg, r⟩
end Go.Proofs.YtbnpoliogldohaaGreat
/- The contract of slices.Clone at numbers, and of the model's l7At. -/
namespace Go.Proofs.YtbnpoliogldohaaGreat
open Go.RowKit

end Go.Proofs.YtbnpoliogldohaaGreat
/- The contracts of the program's InputsIn and BitsIn. -/
namespace Go.Proofs.YtbnpoliogldohaaGreat
open Go.RowKit

end Go.Proofs.YtbnpoliogldohaaGreat
/- The contract of the program's InputAt. -/
namespace Go.Proofs.YtbnpoliogldohaaGreat
open Go.RowKit Go.Shelf
attribute [local go_sem] Oper.semAt_some

/-- Whether there is such an input; its lows, its secrets. -/
noncomputable def atOk (p : Prg) (N : Int) : Bool := decide (codeB p = 0) && (decide (0 ≤ N) && decide (N < prodL (maxesP p)))
noncomputable def atL (p : Prg) (N : Int) : List Int := if atOk p N = true then (digs (maxesP p) N).take p.lows.length else []
noncomputable def atS (p : Prg) (N : Int) : List Int := if atOk p N = true then (digs (maxesP p) N).drop p.lows.length else []
/-- What InputAt leaves. -/
def AtAns (w : World) (p : Prg) (N : Int) (e : Ending) (w' : World) : Prop :=
  Below w.heap.size w w' ∧ ∃ s t : Sl, e = .returned (.tuple #[slV s, slV t, .bool (atOk p N)]) ∧ Own w' w.heap.size s.1 s.2.1 s.2.2 (atL p N) ∧ Own w' w.heap.size t.1 t.2.1 t.2.2 (atS p N) ∧ ∀ g, (slV s).ownBlock = some g → (slV t).ownBlock ≠ some g
/-- How its loop is left by the return within. -/
def StopAt (k : Nat) (w W0 : World) (p : Prg) (N : Int) (c : Code) (m : Nat) (W : World) : Prop :=
  c = .ret ∧ ∃ s t : Sl, Blk W (k + 1 + 1) 25 [slV s] ∧ Blk W (k + 1 + 1 + 1) 25 [slV t] ∧ Blk W (k + 1 + 1 + 1 + 1) 4 [.bool true] ∧ Own W m s.1 s.2.1 s.2.2 (atL p N) ∧ Own W m t.1 t.2.1 t.2.2 (atS p N) ∧ (∀ g, (slV s).ownBlock = some g → (slV t).ownBlock ≠ some g) ∧ atOk p N = true ∧ W0.heap.size ≤ W.heap.size ∧ Below w.heap.size w W ∧ W0.heap.size ≤ m
/-- Between two rounds. -/
def GoAt (W0 : World) (N : Int) (m : Nat) (pre : List EIn) (W : World) : Prop := (∀ x ∈ pre, (x.k : Int) ≠ N) ∧ m ≤ W.heap.size ∧ W0.heap.size ≤ m ∧ Below W0.heap.size W0 W
end Go.Proofs.YtbnpoliogldohaaGreat
/- The contracts of the model's l7Maxes, l7Count, InputsIn and BitsIn. -/
namespace Go.Proofs.YtbnpoliogldohaaGreat
open Go.RowKit

end Go.Proofs.YtbnpoliogldohaaGreat
