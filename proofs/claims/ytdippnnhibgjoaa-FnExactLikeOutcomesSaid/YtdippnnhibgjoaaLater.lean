/- A region that draws its order, whose own operations only read and whose callees leave what was there as it was: walked once, in the text's order, in the class of later worlds. -/
import Derived.Test.YtdippnnhibgjoaaBase
namespace Go.Proofs.Ytdippnnhibgjoaa
open Go.RowKit

/-- A world in which all that lay in w lies as it did. -/
structure Lat (w : World) where
  wd : World
  ok : Below w.heap.size w wd
instance (w : World) : Inhabited (Lat w) := ⟨⟨w, Below.refl _ _⟩⟩

theorem wp_region_lat {id : Nat} {Q : Exit → Act → World → Prop} {a : Act} {w : World} {l : List Oper} (hm : Try.prog.follows .mixedOrders = true) (hB : Region.lexB .any l.toArray = true)
    (h : wpQuiet Try.prog l.toArray (fun w' => ∃ p : Lat w, w' = p.wd) (fun a' => ∀ w', (∃ p : Lat w, w' = p.wd) → Q .normal a' w') l a) : (Code.region id l.toArray true).wp Try.prog Q a w :=
  wp_region_quiet (C := fun w' => ∃ p : Lat w, w' = p.wd) hm hB ⟨⟨w.drewN 1, ⟨rfl, rfl, rfl, Nat.le_refl _, fun _ _ => rfl⟩⟩, rfl⟩ (by simpa using h)
theorem lat_cell {w : World} {b o : Nat} {v : Value} (hb : b < w.heap.size) (h : w.cell? ⟨b, o, none⟩ = some v) (p : Lat w) : p.wd.cell? ⟨b, o, none⟩ = some v := (p.ok.cell hb).trans h
theorem lat_calls {f : FuncId} {args : Array Value} {w : World} {p : Lat w} {v : Value} (h : Calls Try.prog f args p.wd fun e w' => e = .returned v ∧ Below p.wd.heap.size p.wd w') :
    Calls Try.prog f args p.wd fun e w'' => e = .returned v ∧ ∃ q : Lat w, w'' = q.wd :=
  h.mono fun _ w'' ⟨he, hb⟩ => ⟨he, ⟨w'', p.ok.trans (hb.mono p.ok.size)⟩, rfl⟩
end Go.Proofs.Ytdippnnhibgjoaa
