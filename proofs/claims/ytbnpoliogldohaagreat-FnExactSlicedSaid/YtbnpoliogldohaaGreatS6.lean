/- Joined texts of this proof (ProgArgs, ProgSize), in build order. -/
import Derived.Test.YtbnpoliogldohaaGreatS4
import Derived.Test.YtbnpoliogldohaaGreatS5
import Derived.Deep.Fields
/- What a law's arguments are, as the statement's own reading gives them: a slice of Stmts, a program; what the laws' own measures (szTermS, szInputS, szInt64S, szStmt, szStmtS, szProg) answer for them. -/
namespace Go.Proofs.YtbnpoliogldohaaGreat
open Go.RowKit Go.ChangeShapes Go.WideShapes

section
variable {H : Type} {enc : TypeId × Value → H} {w : World} {base : Nat} {spare : Nat → Bool} {held : Bool}
/-- A struct whose fields are one cell each: each cell reads by its field's type. -/
theorem trod_cells {t : TypeId} {fs : Array Field} {fuel : Nat} {cs : List Value} {x : DataW H × List MemPlace} (hs : Tryz.prog.underlying t = some (.struct fs)) (hone : Go.Deep.oneCellFields Tryz.prog fs = true) (hC : Tryz.prog.cellsOf t = fs.size)
    (h : DataW.trod enc Tryz.prog w base spare held fuel t cs = some x) : cs.length = fs.size ∧ ∃ n, ∀ (i : Nat) (f : Field), fs[i]? = some f → ∃ v y, cs[i]? = some v ∧ DataW.trod enc Tryz.prog w base spare held n f.type [v] = some y := by
  obtain ⟨xs, n, _, _, hl, hxl, hf⟩ := DataW.trod_struct hs h
  refine ⟨by omega, n, fun i f hi => ?_⟩
  have hlt : i < fs.size := (Array.getElem?_eq_some_iff.1 hi).1
  obtain ⟨o, c⟩ := Go.Deep.hone_of hone i f hi
  have hg := hf i f hi
  rw [o, c, List.getElem?_eq_getElem (by omega)] at hg
  have hcs : i < cs.length := by omega
  rw [List.drop_eq_getElem_cons hcs] at hg
  exact ⟨cs[i], xs[i]'(by omega), List.getElem?_eq_getElem hcs, hg⟩
/-- A slice of structs whose fields are one cell each. -/
theorem trod_rows {t e : TypeId} {fs : Array Field} {fuel k : Nat} {V : Value} {x : DataW H × List MemPlace} (ht : Tryz.prog.underlying t = some (.slice e)) (hs : Tryz.prog.underlying e = some (.struct fs)) (hone : Go.Deep.oneCellFields Tryz.prog fs = true) (hC : Tryz.prog.cellsOf e = k) (hk : fs.size = k)
    (h : DataW.trod enc Tryz.prog w base spare held fuel t [V] = some x) : ∃ a len cap, V = .slice a len cap ∧ len ≤ maxLen ∧ (0 < len → ∃ ad, a = some ad) ∧
      ∀ ad, a = some ad → ∀ i, i < len → ∃ n, ∀ (j : Nat) (f : Field), fs[j]? = some f → ∃ v y, w.cell? (ad.add (i * k + j)) = some v ∧ DataW.trod enc Tryz.prog w base spare held n f.type [v] = some y := by
  rcases Go.Deep.open_slice ht h with ⟨hcs, _⟩ | ⟨ad, l, c, m, n, D, Pl, hcs, _, hl, hm, hmm, _, hx⟩
  · simp at hcs
    exact ⟨none, 0, 0, hcs, by omega, fun h0 => absurd h0 (by omega), fun ad e => by cases e⟩
  · simp at hcs
    refine ⟨some ad, l, c, hcs, by omega, fun _ => ⟨ad, rfl⟩, fun ad' e i hi => ?_⟩
    injection e with e
    subst e
    have hlm : l ≤ m := by rw [hmm]; split <;> omega
    obtain ⟨cs', h1, h2⟩ := hx i (by omega)
    obtain ⟨_, hlen, hcell⟩ := World.cells?_some h1
    obtain ⟨_, n', hf⟩ := trod_cells hs hone (by omega) h2
    refine ⟨n', fun j f hj => ?_⟩
    obtain ⟨v, y, hv, hy⟩ := hf j f hj
    have hlt : j < fs.size := (Array.getElem?_eq_some_iff.1 hj).1
    have hc := hcell j (by omega)
    rw [Go.Deep.add_add, hv, hC] at hc
    exact ⟨v, y, hc, hy⟩
theorem in64_of {n : Int} (h : (Lit.int .i64 n).wf = true) : In64 n := by
  have b0 := bounds_i64 h
  exact ⟨b0.1, by have := b0.2; omega⟩
/-- A slice of structs of two numbers. -/
theorem argPairs_cell {t e : TypeId} {f0 f1 : Field} {fuel : Nat} {V : Value} {x : DataW H × List MemPlace} (ht : Tryz.prog.underlying t = some (.slice e)) (hs : Tryz.prog.underlying e = some (.struct #[f0, f1])) (hone : Go.Deep.oneCellFields Tryz.prog #[f0, f1] = true) (hC : Tryz.prog.cellsOf e = 2)
    (h0 : f0.type = 2) (h1 : f1.type = 2) (h : DataW.trod enc Tryz.prog w base spare held fuel t [V] = some x) : ∃ a len cap, V = .slice a len cap ∧ ArgTerms w a len := by
  obtain ⟨a, len, cap, rfl, hm, ha, hc⟩ := trod_rows ht hs hone hC rfl h
  refine ⟨a, len, cap, rfl, hm, fun hlen => ?_⟩
  rcases Nat.eq_zero_or_pos len with h0' | hp
  · subst h0'
    exact ⟨[], rfl, by omega, fun t ht => by simp at ht, fun h0 => absurd h0 (by omega)⟩
  obtain ⟨ad, rfl⟩ := ha hp
  have each : ∀ i, i < len → ∃ t : Tm, InTm t ∧ w.cell? (ad.add (i * 2)) = some (.int .i64 t.1) ∧ w.cell? (ad.add (i * 2 + 1)) = some (.int .i64 t.2) := by
    intro i hi
    obtain ⟨n, hn⟩ := hc ad rfl i hi
    obtain ⟨v0, y0, c0, d0⟩ := hn 0 f0 rfl
    obtain ⟨v1, y1, c1, d1⟩ := hn 1 f1 rfl
    rw [h0] at d0
    rw [h1] at d1
    obtain ⟨n0, e0, _, w0⟩ := DataW.trod_int Tryz.underlying2 d0
    obtain ⟨n1, e1, _, w1⟩ := DataW.trod_int Tryz.underlying2 d1
    injection e0 with e0
    injection e1 with e1
    exact ⟨(n0, n1), ⟨in64_of w0, in64_of w1⟩, by rw [← e0]; exact c0, by rw [← e1]; exact c1⟩
  obtain ⟨q, hq⟩ := Go.Deep.choose_lt each
  have hat : ∀ i, i < len → tmAt ((List.range len).map q) i = q i := fun i hi => by simp [tmAt, List.getD_eq_getElem?_getD, hi]
  refine ⟨(List.range len).map q, by simp, hlen, fun t ht => ?_, fun hp => ?_⟩
  · obtain ⟨i, hi, rfl⟩ := List.mem_map.1 ht
    exact (hq i (List.mem_range.1 hi)).1
  · obtain ⟨b, off, spot⟩ := ad
    have hspot : spot = none := by simpa [Addr.add] using World.cell?_spot (hq 0 hp).2.1
    subst hspot
    refine ⟨b, off, rfl, World.block_lt_of_cell? w ⟨b, off + 0 * 2, none⟩ (by have := (hq 0 hp).2.1; rwa [Go.WideShapes.add_plain] at this), fun i hi => ?_⟩
    rw [hat i hi]
    have h1 := (hq i hi).2.1
    have h2 := (hq i hi).2.2
    rw [Go.WideShapes.add_plain] at h1 h2
    exact ⟨h1, by rw [Nat.add_assoc]; exact h2⟩
/-- An argument that is a slice of numbers: of no more than 2^20, it reads as such. -/
def ArgInts (w : World) (a : Option Addr) (len : Nat) : Prop := len ≤ maxLen ∧ (len ≤ 1048576 → ∃ zs, Ints w a len zs)
theorem argInts_cell {t : TypeId} {fuel : Nat} {V : Value} {x : DataW H × List MemPlace} (ht : Tryz.prog.underlying t = some (.slice 2)) (hC : Tryz.prog.cellsOf 2 = 1)
    (h : DataW.trod enc Tryz.prog w base spare held fuel t [V] = some x) : ∃ a len cap, V = .slice a len cap ∧ ArgInts w a len := by
  rcases Go.Deep.open_slice1 ht hC h with ⟨hcs, _⟩ | ⟨ad, l, c, m, n, VV, D, Pl, hcs, _, hl, hm, hmm, _, hx⟩
  · simp at hcs
    exact ⟨none, 0, 0, hcs, by omega, fun _ => ⟨[], rfl, by omega, fun z hz => by simp at hz, fun h0 => absurd h0 (by omega)⟩⟩
  simp at hcs
  have hlm : l ≤ m := by rw [hmm]; split <;> omega
  refine ⟨some ad, l, c, hcs, by omega, fun hlen => ?_⟩
  have each : ∀ i, i < l → ∃ z : Int, In64 z ∧ w.cell? (ad.add i) = some (.int .i64 z) := by
    intro i hi
    obtain ⟨h1, h2⟩ := hx i (by omega)
    obtain ⟨n0, e0, _, w0⟩ := DataW.trod_int Tryz.underlying2 h2
    injection e0 with e0
    exact ⟨n0, in64_of w0, by rw [← e0]; exact h1⟩
  obtain ⟨q, hq⟩ := Go.Deep.choose_lt each
  have hat : ∀ i, i < l → ((List.range l).map q).getD i 0 = q i := fun i hi => by simp [List.getD_eq_getElem?_getD, hi]
  refine ⟨(List.range l).map q, by simp, hlen, fun t ht => ?_, fun hp => ?_⟩
  · obtain ⟨i, hi, rfl⟩ := List.mem_map.1 ht
    exact (hq i (List.mem_range.1 hi)).1
  · obtain ⟨b, off, spot⟩ := ad
    have hspot : spot = none := by simpa [Addr.add] using World.cell?_spot (hq 0 hp).2
    subst hspot
    refine ⟨b, off, rfl, World.block_lt_of_cell? w ⟨b, off + 0, none⟩ (by have := (hq 0 hp).2; rwa [Go.WideShapes.add_plain] at this), fun i hi => ?_⟩
    rw [hat i hi]
    have h1 := (hq i hi).2
    rwa [Go.WideShapes.add_plain] at h1
instance : Inhabited SRow := ⟨noRow⟩
/-- The cells of a slice of Stmts; each of its slices reads where it is not too long. -/
def RowsAt (w : World) (a : Option Addr) (n : Nat) (rs : List SRow) : Prop :=
  rs.length = n ∧
  (0 < n → ∃ b o, a = some ⟨b, o, none⟩ ∧ b < w.heap.size ∧ ∀ i, i < n → w.cell? ⟨b, o + i * 4, none⟩ = some (.int .i64 (srAt rs i).op) ∧ w.cell? ⟨b, o + i * 4 + 1, none⟩ = some (.int .i64 (srAt rs i).n) ∧ w.cell? ⟨b, o + i * 4 + 2, none⟩ = some (slV (srAt rs i).at_) ∧ w.cell? ⟨b, o + i * 4 + 3, none⟩ = some (slV (srAt rs i).exp)) ∧
  ∀ i, i < n → In64 (srAt rs i).op ∧ In64 (srAt rs i).n ∧ ArgTerms w (srAt rs i).at_.1 (srAt rs i).at_.2.1 ∧ ArgTerms w (srAt rs i).exp.1 (srAt rs i).exp.2.1
/-- An argument that is a slice of Stmts. -/
def ArgStmts (w : World) (a : Option Addr) (len : Nat) : Prop := len ≤ maxLen ∧ (len ≤ 1048576 → ∃ rs, RowsAt w a len rs)
theorem argTerms_cell {fuel : Nat} {V : Value} {x : DataW H × List MemPlace} (h : DataW.trod enc Tryz.prog w base spare held fuel 164 [V] = some x) : ∃ a len cap, V = .slice a len cap ∧ ArgTerms w a len :=
  argPairs_cell Tryz.underlying164 Tryz.underlying259 (by kernel_rfl) (by kernel_rfl) rfl rfl h
theorem argStmts_cell {fuel : Nat} {V : Value} {x : DataW H × List MemPlace} (h : DataW.trod enc Tryz.prog w base spare held fuel 47 [V] = some x) : ∃ a len cap, V = .slice a len cap ∧ ArgStmts w a len := by
  obtain ⟨a, len, cap, rfl, hm, ha, hc⟩ := trod_rows (k := 4) Tryz.underlying47 Tryz.underlying166 (by kernel_rfl) (by kernel_rfl) rfl h
  refine ⟨a, len, cap, rfl, hm, fun hlen => ?_⟩
  rcases Nat.eq_zero_or_pos len with h0' | hp
  · subst h0'
    exact ⟨[], rfl, fun h0 => absurd h0 (by omega), fun i hi => absurd hi (by omega)⟩
  obtain ⟨ad, rfl⟩ := ha hp
  have each : ∀ i, i < len → ∃ r : SRow, (In64 r.op ∧ In64 r.n ∧ ArgTerms w r.at_.1 r.at_.2.1 ∧ ArgTerms w r.exp.1 r.exp.2.1) ∧ w.cell? (ad.add (i * 4)) = some (.int .i64 r.op) ∧ w.cell? (ad.add (i * 4 + 1)) = some (.int .i64 r.n) ∧ w.cell? (ad.add (i * 4 + 2)) = some (slV r.at_) ∧ w.cell? (ad.add (i * 4 + 3)) = some (slV r.exp) := by
    intro i hi
    obtain ⟨n, hn⟩ := hc ad rfl i hi
    obtain ⟨v0, y0, c0, d0⟩ := hn 0 _ rfl
    obtain ⟨v1, y1, c1, d1⟩ := hn 1 _ rfl
    obtain ⟨v2, y2, c2, d2⟩ := hn 2 _ rfl
    obtain ⟨v3, y3, c3, d3⟩ := hn 3 _ rfl
    obtain ⟨n0, e0, _, w0⟩ := DataW.trod_int Tryz.underlying2 d0
    obtain ⟨n1, e1, _, w1⟩ := DataW.trod_int Tryz.underlying2 d1
    obtain ⟨a2, l2, k2, rfl, t2⟩ := argTerms_cell d2
    obtain ⟨a3, l3, k3, rfl, t3⟩ := argTerms_cell d3
    injection e0 with e0
    injection e1 with e1
    exact ⟨⟨n0, n1, (a2, l2, k2), (a3, l3, k3)⟩, ⟨in64_of w0, in64_of w1, t2, t3⟩, by rw [← e0]; exact c0, by rw [← e1]; exact c1, c2, c3⟩
  obtain ⟨q, hq⟩ := Go.Deep.choose_lt each
  have hat : ∀ i, i < len → srAt ((List.range len).map q) i = q i := fun i hi => by simp [srAt, List.getD_eq_getElem?_getD, hi]
  refine ⟨(List.range len).map q, by simp, fun _ => ?_, fun i hi => by rw [hat i hi]; exact (hq i hi).1⟩
  obtain ⟨b, off, spot⟩ := ad
  have hspot : spot = none := by simpa [Addr.add] using World.cell?_spot (hq 0 hp).2.1
  subst hspot
  refine ⟨b, off, rfl, World.block_lt_of_cell? w ⟨b, off + 0 * 4, none⟩ (by have := (hq 0 hp).2.1; rwa [Go.WideShapes.add_plain] at this), fun i hi => ?_⟩
  rw [hat i hi]
  obtain ⟨h1, h2, h3, h4⟩ := (hq i hi).2
  rw [Go.WideShapes.add_plain] at h1 h2 h3 h4
  exact ⟨h1, by rw [Nat.add_assoc]; exact h2, by rw [Nat.add_assoc]; exact h3, by rw [Nat.add_assoc]; exact h4⟩
end
end Go.Proofs.YtbnpoliogldohaaGreat
/- What the laws' own measures answer: szTermS, szInputS, szInt64S, szStmt, szStmtS, szProg. -/
namespace Go.Proofs.YtbnpoliogldohaaGreat
open Go.RowKit

/-- What is left of 'left' when n is taken: -1 where it does not last. -/
def szI (n left : Nat) : Int := if n ≤ left then ((left - n : Nat) : Int) else -1
theorem szI_fits {n left : Nat} (h : n ≤ left) : szI n left = ((left - n : Nat) : Int) := if_pos h
theorem szI_over {n left : Nat} (h : left < n) : szI n left = -1 := if_neg (by omega)

theorem szTermS_fits (a : Option Addr) (n c left : Nat) (w : World) (h : n ≤ left) (hl : left ≤ 1048576) :
    Calls Tryz.prog 184 #[.slice a n c, .int .i64 (left : Int)] w fun e w' => e = .returned (.int .i64 ((left - n : Nat) : Int)) ∧ w = w' := by
  go_enter Tryz.func184, Tryz.ntmps184
  go_wp2
  go_ret
  exact ⟨ret_int (by omega), rfl⟩
theorem szTermS_over (a : Option Addr) (n c left : Nat) (w : World) (h : left < n) (hm : n ≤ maxLen) :
    Calls Tryz.prog 184 #[.slice a n c, .int .i64 (left : Int)] w fun e w' => e = .returned (.int .i64 (-1)) ∧ w = w' := by
  unfold maxLen at hm
  go_enter Tryz.func184, Tryz.ntmps184
  go_wp2
  go_ret
  exact ⟨rfl, rfl⟩
theorem szInputS_fits (a : Option Addr) (n c left : Nat) (w : World) (h : n ≤ left) (hl : left ≤ 1048576) :
    Calls Tryz.prog 70 #[.slice a n c, .int .i64 (left : Int)] w fun e w' => e = .returned (.int .i64 ((left - n : Nat) : Int)) ∧ w = w' := by
  go_enter Tryz.func70, Tryz.ntmps70
  go_wp2
  go_ret
  exact ⟨ret_int (by omega), rfl⟩
theorem szInputS_over (a : Option Addr) (n c left : Nat) (w : World) (h : left < n) (hm : n ≤ maxLen) :
    Calls Tryz.prog 70 #[.slice a n c, .int .i64 (left : Int)] w fun e w' => e = .returned (.int .i64 (-1)) ∧ w = w' := by
  unfold maxLen at hm
  go_enter Tryz.func70, Tryz.ntmps70
  go_wp2
  go_ret
  exact ⟨rfl, rfl⟩
theorem szInt64S_fits (a : Option Addr) (n c left : Nat) (w : World) (h : n ≤ left) (hl : left ≤ 1048576) :
    Calls Tryz.prog 71 #[.slice a n c, .int .i64 (left : Int)] w fun e w' => e = .returned (.int .i64 ((left - n : Nat) : Int)) ∧ w = w' := by
  go_enter Tryz.func71, Tryz.ntmps71
  go_wp2
  go_ret
  exact ⟨ret_int (by omega), rfl⟩
theorem szInt64S_over (a : Option Addr) (n c left : Nat) (w : World) (h : left < n) (hm : n ≤ maxLen) :
    Calls Tryz.prog 71 #[.slice a n c, .int .i64 (left : Int)] w fun e w' => e = .returned (.int .i64 (-1)) ∧ w = w' := by
  unfold maxLen at hm
  go_enter Tryz.func71, Tryz.ntmps71
  go_wp2
  go_ret
  exact ⟨rfl, rfl⟩

set_option maxHeartbeats 800000 in
theorem szStmt_any (x y : Int) (a1 a2 : Option Addr) (n1 n2 c1 c2 left : Nat) (w : World) (h1 : n1 ≤ maxLen) (h2 : n2 ≤ maxLen) (hl : left ≤ 1048576) :
    Calls Tryz.prog 126 #[.agg #[.int .i64 x, .int .i64 y, .slice a1 n1 c1, .slice a2 n2 c2], .int .i64 (left : Int)] w fun e w' => e = .returned (.int .i64 (szI (n1 + n2) left)) ∧ Below w.heap.size w w' := by
  have HB : Below w.heap.size w (w.alloc (.cells #[.int .i64 x, .int .i64 y, .slice a1 n1 c1, .slice a2 n2 c2] 166)) := (Below.refl _ _).alloc (Nat.le_refl _) _
  by_cases e1 : n1 ≤ left
  · go_enter Tryz.func126, Tryz.ntmps126
    go_wp2_with fail
    refine (szTermS_fits _ _ _ _ _ e1 hl).mono ?_
    rintro e w1 ⟨rfl, rfl⟩
    by_cases e2 : n2 ≤ left - n1
    · go_wp2_with fail
      refine (szTermS_fits _ _ _ _ _ e2 (by omega)).mono ?_
      rintro e w1 ⟨rfl, rfl⟩
      go_wp2
      go_ret
      exact ⟨ret_int (by rw [szI_fits (by omega)]; congr 1; omega), HB⟩
    · go_wp2_with fail
      refine (szTermS_over _ _ _ _ _ (by omega) h2).mono ?_
      rintro e w1 ⟨rfl, rfl⟩
      go_wp2
      go_ret
      exact ⟨ret_int (by rw [szI_over (by omega)]), HB⟩
  · go_enter Tryz.func126, Tryz.ntmps126
    go_wp2_with fail
    refine (szTermS_over _ _ _ _ _ (by omega) h1).mono ?_
    rintro e w1 ⟨rfl, rfl⟩
    go_wp2
    go_ret
    exact ⟨ret_int (by rw [szI_over (by omega)]), HB⟩
/-- What the first k rows' slices take. -/
def sumTo (rs : List SRow) : Nat → Nat
  | 0 => 0
  | k + 1 => sumTo rs k + ((srAt rs k).at_.2.1 + (srAt rs k).exp.2.1)
theorem sumTo_mono (rs : List SRow) {j k : Nat} (h : j ≤ k) : sumTo rs j ≤ sumTo rs k := by
  induction k with
  | zero => obtain rfl : j = 0 := by omega
            exact Nat.le_refl _
  | succ k ih =>
    rcases Nat.lt_or_ge j (k + 1) with hlt | hge
    · exact Nat.le_trans (ih (by omega)) (Nat.le_add_right _ _)
    · obtain rfl : j = k + 1 := by omega
      exact Nat.le_refl _
theorem sumTo_at (rs : List SRow) {i n : Nat} (h : i < n) : (srAt rs i).at_.2.1 ≤ sumTo rs n ∧ (srAt rs i).exp.2.1 ≤ sumTo rs n := by
  have := sumTo_mono rs (show i + 1 ≤ n by omega)
  simp only [sumTo] at this
  omega
theorem RowsAt.below {w w' : World} {a : Option Addr} {n : Nat} {rs : List SRow} (h : RowsAt w a n rs) (hb : Below w.heap.size w w') : RowsAt w' a n rs := by
  obtain ⟨h1, h4, h5⟩ := h
  refine ⟨h1, fun hp => ?_, fun i hi => ?_⟩
  · obtain ⟨b, o, rfl, hbl, hc⟩ := h4 hp
    exact ⟨b, o, rfl, Nat.lt_of_lt_of_le hbl hb.size, fun i hi => ⟨(hb.cell hbl).trans (hc i hi).1, (hb.cell hbl).trans (hc i hi).2.1, (hb.cell hbl).trans (hc i hi).2.2.1, (hb.cell hbl).trans (hc i hi).2.2.2⟩⟩
  · obtain ⟨q1, q2, ⟨q3, q4⟩, q5, q6⟩ := h5 i hi
    exact ⟨q1, q2, ⟨q3, fun hn => by obtain ⟨ts, ht⟩ := q4 hn; exact ⟨ts, ht.below (Nat.le_refl _) hb⟩⟩, q5, fun hn => by obtain ⟨ts, ht⟩ := q6 hn; exact ⟨ts, ht.below (Nat.le_refl _) hb⟩⟩
theorem RowsAt.at_ {w : World} {a : Option Addr} {n : Nat} {rs : List SRow} (h : RowsAt w a n rs) {k : Nat} (hk : k < n) :
    ∃ b o x y a1 n1 c1 a2 n2 c2, a = some ⟨b, o, none⟩ ∧ b < w.heap.size ∧ Hid (srAt rs k = ⟨x, y, (a1, n1, c1), (a2, n2, c2)⟩) ∧ w.cell? ⟨b, o + k * 4, none⟩ = some (.int .i64 x) ∧ w.cell? ⟨b, o + k * 4 + 1, none⟩ = some (.int .i64 y) ∧ w.cell? ⟨b, o + k * 4 + 2, none⟩ = some (.slice a1 n1 c1) ∧ w.cell? ⟨b, o + k * 4 + 3, none⟩ = some (.slice a2 n2 c2) ∧ n1 ≤ maxLen ∧ n2 ≤ maxLen := by
  obtain ⟨h1, h4, h5⟩ := h
  obtain ⟨b, o, rfl, hb, hc⟩ := h4 (by omega)
  obtain ⟨_, _, s3, s4⟩ := h5 k hk
  obtain ⟨k1, k2, k3, k4⟩ := hc k hk
  exact ⟨b, o, _, _, _, _, _, _, _, _, rfl, hb, rfl, k1, k2, k3, k4, s3.1, s4.1⟩
/-- Rows that are not too long read as statements. -/
theorem RowsAt.reads {w : World} {a : Option Addr} {n : Nat} {rs : List SRow} (h : RowsAt w a n rs) (hs : n + sumTo rs n ≤ 1048576) : ∃ ss, Stmts w a n rs ss := by
  obtain ⟨h1, h4, h5⟩ := h
  have each : ∀ i, i < n → ∃ s : Stm, StmOf w (srAt rs i) s := by
    intro i hi
    obtain ⟨q1, q2, q3, q4⟩ := h5 i hi
    have := sumTo_at rs hi
    obtain ⟨ts, ht⟩ := q3.2 (by omega)
    obtain ⟨us, hu⟩ := q4.2 (by omega)
    exact ⟨⟨_, _, ts, us⟩, rfl, rfl, q1, q2, ht, hu⟩
  obtain ⟨q, hq⟩ := Go.Deep.choose_lt each
  refine ⟨(List.range n).map q, h1, by simp, by omega, h4, fun i hi => ?_⟩
  rw [show stAt ((List.range n).map q) i = q i by simp [stAt, List.getD_eq_getElem?_getD, hi]]
  exact hq i hi

theorem szStmtS_over (a : Option Addr) (n c left : Nat) (w : World) (h : left < n) (hm : n ≤ maxLen) :
    Calls Tryz.prog 72 #[.slice a n c, .int .i64 (left : Int)] w fun e w' => e = .returned (.int .i64 (-1)) ∧ w = w' := by
  unfold maxLen at hm
  go_enter Tryz.func72, Tryz.ntmps72
  go_wp2
  go_ret
  exact ⟨rfl, rfl⟩
set_option maxHeartbeats 1600000 in
theorem szStmtS_rows (a : Option Addr) (n c left : Nat) (rs : List SRow) (w : World) (h : RowsAt w a n rs) (hn : n ≤ left) (hl : left ≤ 1048576) :
    Calls Tryz.prog 72 #[.slice a n c, .int .i64 (left : Int)] w fun e w' => e = .returned (.int .i64 (szI (n + sumTo rs n) left)) ∧ Below w.heap.size w w' := by
  go_enter Tryz.func72, Tryz.ntmps72
  go_wp2
  go_loopw [1, 5] (fun q i wr => ∃ k : Nat, k ≤ n ∧ i = .int .i64 k ∧ n + sumTo rs k ≤ left ∧ q = .int .i64 ((left - (n + sumTo rs k) : Nat) : Int) ∧ Below w.heap.size w wr) (fun _ i _ => n - (intOf i).toNat)
  case atStart => exact ⟨0, Nat.zero_le _, rfl, by simpa [sumTo] using hn, by congr 1; simp [sumTo]; omega, Below.refl _ _⟩
  case round =>
    obtain ⟨k, hk, rfl, hs, rfl, hbel⟩ := hrel
    by_cases hlt : k < n
    · obtain ⟨b, o, x, y, a1, n1, c1, a2, n2, c2, rfl, hb, hz, hc1, hc2, hc3, hc4, hm1, hm2⟩ := (h.below hbel).at_ hlt
      have hstep : sumTo rs (k + 1) = sumTo rs k + (n1 + n2) := by simp only [sumTo, hz.out]
      have HS := Lib.hid hstep
      clear hstep
      obtain ⟨L, HL⟩ : ∃ L : Nat, Hid (left - (n + sumTo rs k) = L) := ⟨_, rfl⟩
      rw [HL.out]
      have hL : L ≤ 1048576 := by have := HL.out; omega
      have HLL := Lib.hid hs
      clear hs
      go_wp2_with fail
      refine (szStmt_any _ _ _ _ _ _ _ _ _ _ hm1 hm2 hL).mono ?_
      rintro e w1 ⟨rfl, hb1⟩
      have hbel2 := hbel.trans (hb1.mono hbel.size)
      clear hbel hb1 hc1 hc2 hc3 hc4
      by_cases hfit : n1 + n2 ≤ L
      · rw [szI_fits hfit]
        obtain ⟨M, HM⟩ : ∃ M : Nat, Hid (L - (n1 + n2) = M) := ⟨_, rfl⟩
        rw [HM.out]
        have hM : M ≤ 1048576 := by have := HM.out; omega
        go_wp2
        go_roundw
        case rel =>
          have q1 := HL.out
          have q2 := HM.out
          have q3 := HS.out
          have q4 := HLL.out
          exact ⟨k + 1, by omega, by go_num, by omega, by congr 1; omega, hbel2⟩
        case measure => simp [intOf]; omega
      · rw [szI_over (by omega)]
        go_wp2
        go_ret
        have q1 := HL.out
        have q3 := HS.out
        have q5 := sumTo_mono rs (show k + 1 ≤ n by omega)
        exact ⟨ret_int (by rw [szI_over (by omega)]), hbel2⟩
    · obtain rfl : n = k := by omega
      have hL : left - (n + sumTo rs n) ≤ 1048576 := by omega
      generalize HL : left - (n + sumTo rs n) = L at hL
      go_wp2
      go_ret
      exact ⟨ret_int (by rw [szI_fits hs, HL]), hbel⟩
end Go.Proofs.YtbnpoliogldohaaGreat
