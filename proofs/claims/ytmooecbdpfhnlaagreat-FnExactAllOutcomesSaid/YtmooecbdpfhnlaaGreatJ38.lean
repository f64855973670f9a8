/- Joined texts of this proof (OcsMath, OcsMark, OcsHeld, OcsPart, AllAns), in build order. -/
import Derived.Test.YtmooecbdpfhnlaaGreatJ37
import Derived.Test.YtmooecbdpfhnlaaGreatJ27
import Derived.Test.YtmooecbdpfhnlaaGreatJ21
import Derived.Test.YtmooecbdpfhnlaaGreatJ13
/- One of the call's own Outcomes is turned: its numbers, its End and its Code; marked Outcomes. -/
namespace Go.Proofs.YtmooecbdpfhnlaaGreat
open Go.RowKit

theorem flatO_put : ∀ (rs : List OcR) (j : Nat) (en co : Int), j < rs.length → flatO (rs.set j ⟨(rAt rs j).vals, en, co⟩) = ((flatO rs).set (j * 3 + 1) (.int .i64 en)).set (j * 3 + 2) (.int .i64 co)
  | [], _, _, _, h => absurd h (by simp)
  | t :: r, 0, en, co, _ => by simp [flatO, orowV, rAt]
  | t :: r, j + 1, en, co, h => by
    have ih := flatO_put r j en co (by simpa using h)
    have e : rAt (t :: r) (j + 1) = rAt r j := by simp [rAt]
    rw [e]
    show orowV t ++ flatO (r.set j ⟨(rAt r j).vals, en, co⟩) = ((orowV t ++ flatO r).set ((j + 1) * 3 + 1) _).set ((j + 1) * 3 + 2) _
    have hl : (orowV t).length = 3 := rfl
    rw [ih, List.set_append_right _ _ (by omega), List.set_append_right _ _ (by omega), hl, show (j + 1) * 3 + 1 - 3 = j * 3 + 1 by omega, show (j + 1) * 3 + 2 - 3 = j * 3 + 2 by omega]
theorem rAt_set_same {rs : List OcR} {j : Nat} (r : OcR) (h : j < rs.length) : rAt (rs.set j r) j = r := by simp [rAt, List.getD_eq_getElem?_getD, h]
theorem rAt_set_other {rs : List OcR} {i j : Nat} (r : OcR) (h : i ≠ j) : rAt (rs.set j r) i = rAt rs i := by simp [rAt, List.getD_eq_getElem?_getD, show ¬ j = i from fun e => h e.symm]
theorem oAt_set_same {os : List Oc} {j : Nat} (o : Oc) (h : j < os.length) : oAt (os.set j o) j = o := by simp [oAt, List.getD_eq_getElem?_getD, h]
theorem oAt_set_other {os : List Oc} {i j : Nat} (o : Oc) (h : i ≠ j) : oAt (os.set j o) i = oAt os i := by simp [oAt, List.getD_eq_getElem?_getD, show ¬ j = i from fun e => h e.symm]
/-- One of them is turned. -/
theorem ownO_put {w w1 : World} {B E n c g j : Nat} {rs : List OcR} {os : List Oc} {zs : List Int} (h : OwnO w B E (some ⟨g, 0, none⟩) n c rs os) (ha : ApartO rs) (hj : j < n) (hg : w.grownBy w1 (slV (rAt rs j).vals).ownBlock)
    (ho : Own w1 E (rAt rs j).vals.1 (rAt rs j).vals.2.1 (rAt rs j).vals.2.2 zs) (en co : Int) (he : In64 en) (hc : In64 co) :
    OwnO ((w1.setCell ⟨g, j * 3 + 1, none⟩ (.int .i64 en)).setCell ⟨g, j * 3 + 2, none⟩ (.int .i64 co)) B E (some ⟨g, 0, none⟩) n c (rs.set j ⟨(rAt rs j).vals, en, co⟩) (os.set j (zs, en, co)) := by
  have hlr := h.len
  have hlo := h.2.2.1
  have hn1 : ∀ x, (slV (rAt rs j).vals).ownBlock = some x → (Value.slice (some ⟨g, 0, none⟩) n c).ownBlock ≠ some x := fun x e e' => kinds_apartO (h.2.2.2 j hj).2.2.2.2 h.1 e' e
  have h1 : w1.ownsRow B 43 3 (.slice (some ⟨g, 0, none⟩) n c) n (flatO rs) := by
    refine h.1.kept hg ?_
    cases hv : (Value.slice (some ⟨g, 0, none⟩) n c).ownBlock with
    | none => exact .inl rfl
    | some x => exact .inr (fun e => hn1 x e.symm hv)
  have s1 := (h1.stored (j * 3 + 1) (.int .i64 en)).1
  have s2 := (s1.stored (j * 3 + 2) (.int .i64 co)).1
  rw [← flatO_put rs j en co (by omega)] at s2
  refine ⟨s2, h.2.1, by rw [List.length_set, hlo], fun i hi => ?_⟩
  by_cases hij : i = j
  · subst hij
    rw [rAt_set_same _ (by omega), oAt_set_same _ (by omega)]
    have k1 : OcOf w1 E ⟨(rAt rs i).vals, en, co⟩ (zs, en, co) := ⟨rfl, rfl, he, hc, ho⟩
    exact (k1.rowGrew h1 (grown_set _ _ _ _)).rowGrew s1 (grown_set _ _ _ _)
  · rw [rAt_set_other _ hij, oAt_set_other _ hij]
    obtain ⟨q1, q2, q3, q4, q5⟩ := h.2.2.2 i hi
    have k1 : OcOf w1 E (rAt rs i) (oAt os i) := ⟨q1, q2, q3, q4, q5.keep hg (fun x e e' => hij (ha i j x (by omega) (by omega) e e'))⟩
    exact (k1.rowGrew h1 (grown_set _ _ _ _)).rowGrew s1 (grown_set _ _ _ _)
theorem ApartO.put {rs : List OcR} (h : ApartO rs) (j : Nat) (hj : j < rs.length) (en co : Int) : ApartO (rs.set j ⟨(rAt rs j).vals, en, co⟩) := by
  have hv : ∀ i, (rAt (rs.set j ⟨(rAt rs j).vals, en, co⟩) i).vals = (rAt rs i).vals := fun i => by
    by_cases e : i = j
    · subst e; rw [rAt_set_same _ hj]
    · rw [rAt_set_other _ e]
  intro i k g hi hk e1 e2
  rw [hv] at e1 e2
  rw [List.length_set] at hi hk
  exact h i k g hi hk e1 e2
/-- How many marks the first i have. -/
def sumO (os : List Oc) : Nat → Nat
  | 0 => 0
  | i + 1 => sumO os i + ((oAt os i).1.length + 2)
theorem sumO_mono (os : List Oc) (i j : Nat) (h : i ≤ j) : sumO os i ≤ sumO os j := by
  induction j with
  | zero => obtain rfl : i = 0 := by omega
            exact Nat.le_refl _
  | succ j ih =>
    rcases Nat.lt_or_ge i (j + 1) with h' | h'
    · have := ih (by omega); simp only [sumO]; omega
    · obtain rfl : i = j + 1 := by omega
      exact Nat.le_refl _
/-- One marked. -/
def markOc (k : Nat) (o : Oc) : Oc := (marks (k : Int) o.1.length, ((k + o.1.length : Nat) : Int), ((k + o.1.length : Nat) : Int) + 1)
/-- The first i marked. -/
def MarkO (os : List Oc) (k i : Nat) : List Oc := (List.range os.length).map (fun j => if j < i then markOc (k + sumO os j) (oAt os j) else oAt os j)
theorem markO_len (os : List Oc) (k i : Nat) : (MarkO os k i).length = os.length := by simp [MarkO]
theorem markO_at (os : List Oc) (k i j : Nat) (h : j < os.length) : oAt (MarkO os k i) j = if j < i then markOc (k + sumO os j) (oAt os j) else oAt os j := by
  simp [MarkO, oAt, List.getD_eq_getElem?_getD, h]
theorem oAt_ext {os ps : List Oc} (hl : os.length = ps.length) (h : ∀ i, i < os.length → oAt os i = oAt ps i) : os = ps := by
  refine List.ext_getElem hl fun i h1 h2 => ?_
  have := h i h1
  simpa [oAt, List.getD_eq_getElem?_getD, h1, h2] using this
theorem markO_zero (os : List Oc) (k : Nat) : MarkO os k 0 = os := oAt_ext (markO_len os k 0) (fun i h => by
  rw [markO_len] at h
  rw [markO_at _ _ _ _ h, if_neg (by omega)])
theorem markO_succ (os : List Oc) (k i : Nat) (h : i < os.length) : MarkO os k (i + 1) = (MarkO os k i).set i (markOc (k + sumO os i) (oAt os i)) := oAt_ext (by rw [List.length_set, markO_len, markO_len]) (fun j hj => by
  rw [markO_len] at hj
  by_cases e : j = i
  · subst e
    rw [oAt_set_same _ (by rw [markO_len]; exact hj), markO_at _ _ _ _ hj, if_pos (by omega)]
  · rw [oAt_set_other _ e, markO_at _ _ _ _ hj, markO_at _ _ _ _ hj]
    by_cases h1 : j < i
    · rw [if_pos h1, if_pos (by omega)]
    · rw [if_neg h1, if_neg (by omega)])
/-- Its blocks lie from lo up to hi. -/
def InO (lo hi : Nat) (a : Option Addr) (n c : Nat) (rs : List OcR) : Prop := (∀ g, (Value.slice a n c).ownBlock = some g → lo ≤ g ∧ g < hi) ∧ ∀ i g, i < n → (slV (rAt rs i).vals).ownBlock = some g → lo ≤ g ∧ g < hi
end Go.Proofs.YtmooecbdpfhnlaaGreat
/- The laws' own marks on slices of Outcomes (markOutcomeS). -/
namespace Go.Proofs.YtmooecbdpfhnlaaGreat
open Go.RowKit

/-- Marked up to j. -/
def MarkedO (w : World) (lo hi B E : Nat) (a : Option Addr) (n c : Nat) (os : List Oc) (k j : Nat) (wr : World) : Prop := ∃ rs, OwnO wr B E a n c rs (MarkO os k j) ∧ ApartO rs ∧ InO lo hi a n c rs ∧ Span lo hi w wr
theorem row_frozen {w : World} {B t s g n c k : Nat} {xs : List Value} (h : w.ownsRow B t s (.slice (some ⟨g, 0, none⟩) n c) n xs) : w.frozen? ⟨g, k, none⟩ = false := by
  rcases h.2 with ⟨e, _⟩ | ⟨g', cap, cur, e, _, hg, _⟩
  · cases e
  · injection e with e
    injection e with e
    injection e with e
    subst e
    simp [World.frozen?, hg]
set_option maxHeartbeats 1600000 in
theorem markOutcomeS_any (a : Option Addr) (n c : Nat) (rs : List OcR) (os : List Oc) (k : Nat) (w : World) (B E lo hi : Nat) (h : OwnO w B E a n c rs os) (ha : ApartO rs) (hin : InO lo hi a n c rs) (hk : k ≤ 1000000) (hs : sumO os n ≤ 1000000) :
    Calls Tryz.prog 43 #[.slice a n c, .int .i64 (k : Int)] w fun e w' => e = .returned (.int .i64 ((k + sumO os n : Nat) : Int)) ∧ MarkedO w lo hi B E a n c os k n w' := by
  have HL := Lib.hid h.2.2.1
  have hbd := h.2.1
  have H0 : Hid (MarkedO w lo hi B E a n c os k 0 w) := Lib.hid ⟨rs, by rw [markO_zero]; exact h, ha, hin, Span.refl _ _ _⟩
  clear h ha hin
  go_enter Tryz.func43, Tryz.ntmps43
  go_wp2
  go_loopw [1, 5] (fun q i wr => ∃ j p : Nat, j ≤ n ∧ i = .int .i64 j ∧ q = .int .i64 (p : Int) ∧ Hid (p = k + sumO os j) ∧ MarkedO w lo hi B E a n c os k j wr) (fun _ i _ => n - (intOf i).toNat)
  case atStart => exact ⟨0, k, Nat.zero_le _, rfl, rfl, by show k = k + 0; omega, H0.out⟩
  case round =>
    obtain ⟨j, p, hj, rfl, rfl, hp, hm⟩ := hrel
    clear H0
    by_cases hlt : j < n
    · obtain ⟨rs, hO, hA, hI, hS⟩ := hm
      obtain ⟨g, v, m, d, en, co, rfl, hg, hR, c0, c1, c2, hoc⟩ := hO.at_ hlt
      have hat := markO_at os k j j (by rw [HL.out]; exact hlt)
      rw [if_neg (by omega)] at hat
      have hot := hoc.out.2.2.2.2
      rw [hat] at hot
      have HN1 := Lib.hid hot.len
      have hmono := sumO_mono os (j + 1) n (by omega)
      simp only [sumO] at hmono
      have hp4 : p ≤ 4194304 := by have := hp.out; omega
      have hm4 : m ≤ 1048576 := hot.2.1
      have hRv : (rAt rs j).vals = (v, m, d) := by rw [hR.out]
      have HO := Lib.hid hO
      have HA := Lib.hid hA
      have HI := Lib.hid hI
      have HS := Lib.hid hS
      have HRV := Lib.hid hRv
      have HR := hR
      clear hat hO hA hI hS hoc hR hRv c1 c2
      go_wp2_with fail
      refine (markInt64S_any _ _ _ _ p _ E hot hp4).mono ?_
      rintro e w2 ⟨rfl, hot2, hg2⟩
      have hg2' : wr.grownBy w2 (slV (rAt rs j).vals).ownBlock := by rw [HRV.out]; exact hg2
      have h1 : w2.ownsRow B 43 3 (.slice (some ⟨g, 0, none⟩) n c) n (flatO rs) := by
        refine HO.out.1.kept hg2 (.inr (fun e => ?_))
        exact kinds_apartO (E' := E) hot HO.out.1 rfl e.symm
      have hlr := HO.out.len
      have hl3 := flatO_len rs
      have hjr : j < rs.length := by omega
      have hcell : ∀ (W : World) (xs : List Value), W.ownsRow B 43 3 (.slice (some ⟨g, 0, none⟩) n c) n xs → ∀ i, i < n * 3 → W.cell? ⟨g, i, none⟩ = xs[i]? := fun W xs hw i hi => hw.cellAt i hi
      have y1 : w2.cell? ⟨g, j * 3 + 1, none⟩ = some (.int .i64 en) := by rw [hcell _ _ h1 _ (by omega), flatO_at rs j 1 hjr (by omega), HR.out]; rfl
      have f1 : w2.frozen? ⟨g, j * 3 + 1, none⟩ = false := row_frozen h1
      have y2 : w2.cell? ⟨g, j * 3 + 2, none⟩ = some (.int .i64 co) := by rw [hcell _ _ h1 _ (by omega), flatO_at rs j 2 hjr (by omega), HR.out]; rfl
      have f2 : w2.frozen? ⟨g, j * 3 + 2, none⟩ = false := row_frozen h1
      have hpm : p + m ≤ 5242880 := by omega
      have HM : Hid (MarkedO w lo hi B E (some ⟨g, 0, none⟩) n c os k (j + 1) ((w2.setCell ⟨g, j * 3 + 1, none⟩ (.int .i64 ((p + m : Nat) : Int))).setCell ⟨g, j * 3 + 2, none⟩ (.int .i64 (((p + m : Nat) : Int) + 1)))) := Lib.hid (by
        have hput := ownO_put (zs := marks (p : Int) m) HO.out HA.out hlt hg2' (by rw [HRV.out]; exact hot2) ((p + m : Nat) : Int) (((p + m : Nat) : Int) + 1) ⟨by omega, by omega⟩ ⟨by omega, by omega⟩
        refine ⟨rs.set j ⟨(rAt rs j).vals, ((p + m : Nat) : Int), ((p + m : Nat) : Int) + 1⟩, ?_, HA.out.put j hjr ((p + m : Nat) : Int) (((p + m : Nat) : Int) + 1), ⟨HI.out.1, fun i x hi hx => ?_⟩, ((HS.out.trans (Span.of_grown hg2 (fun x e => HI.out.2 j x hlt (by rw [HRV.out]; exact e)))).trans (Span.of_grown (grown_set _ _ _ _) (fun x e => HI.out.1 x e))).trans (Span.of_grown (grown_set _ _ _ _) (fun x e => HI.out.1 x e))⟩
        · rw [markO_succ _ _ _ (by rw [HL.out]; exact hlt), markOc, ← hp.out, HN1.out]
          exact hput
        · by_cases e : i = j
          · subst e; rw [rAt_set_same _ hjr] at hx; exact HI.out.2 i x hi hx
          · rw [rAt_set_other _ e] at hx; exact HI.out.2 i x hi hx)
      have hp2 : Hid (p + m + 1 + 1 = k + sumO os (j + 1)) := by show _ = _; have := hp.out; have := HN1.out; simp only [sumO]; omega
      clear hot hot2 hg2 hg2' h1 hcell hp HR HRV HO HA HI HS hmono hl3 hlr hjr
      rw [Int.natCast_add] at HM
      go_wp2
      go_roundw
      case rel => exact ⟨j + 1, p + m + 1 + 1, by omega, by go_num, by go_num, hp2, HM.out⟩
      case measure => simp [intOf]; omega
    · obtain rfl : n = j := by omega
      go_wp2
      go_ret
      exact ⟨ret_int (by rw [hp.out]), hm⟩
end Go.Proofs.YtmooecbdpfhnlaaGreat
/- The laws' own marks on slices of Outcomes, read back (heldOutcomeS). -/
namespace Go.Proofs.YtmooecbdpfhnlaaGreat
open Go.RowKit

set_option maxHeartbeats 1600000 in
theorem heldOutcomeS_any (a : Option Addr) (n c : Nat) (rs : List OcR) (os : List Oc) (k : Nat) (w : World) (B E : Nat) (h : OwnO w B E a n c rs (MarkO os k n)) (hk : k ≤ 1000000) (hs : sumO os n ≤ 1000000) :
    Calls Tryz.prog 44 #[.slice a n c, .int .i64 (k : Int)] w fun e w' => e = .returned (.int .i64 ((k + sumO os n : Nat) : Int)) ∧ w = w' := by
  have HL : Hid (os.length = n) := Lib.hid (by have := h.2.2.1; rwa [markO_len] at this)
  have hbd := h.2.1
  have HO := Lib.hid h
  clear h
  go_enter Tryz.func44, Tryz.ntmps44
  go_wp2
  go_loop [1, 5] (fun q i => ∃ j p : Nat, j ≤ n ∧ i = .int .i64 j ∧ q = .int .i64 (p : Int) ∧ Hid (p = k + sumO os j)) (fun _ i => n - (intOf i).toNat)
  case atStart => exact ⟨0, k, Nat.zero_le _, rfl, rfl, by show k = k + 0; omega⟩
  case round =>
    obtain ⟨j, p, hj, rfl, rfl, hp⟩ := hrel
    by_cases hlt : j < n
    · obtain ⟨g, v, m, d, en, co, rfl, hg, hR, c0, c1, c2, hoc⟩ := HO.out.at_ hlt
      have hat := markO_at os k n j (by rw [HL.out]; exact hlt)
      rw [if_pos hlt, ← hp.out] at hat
      obtain ⟨q1, q2, _, _, q5⟩ := hoc.out
      rw [hat] at q1 q2 q5
      have hlm : (oAt os j).1.length = m := by have := q5.len; simp only [markOc, marks_len] at this; exact this
      simp only [markOc, hlm] at q1 q2 q5
      have hT := q5.ints
      have HLM := Lib.hid hlm
      have hmono := sumO_mono os (j + 1) n (by omega)
      simp only [sumO] at hmono
      have hp4 : p ≤ 4194304 := by have := hp.out; omega
      have hm4 : m ≤ 1048576 := q5.2.1
      have e1 : en = (p : Int) + (m : Int) := by rw [q1]; omega
      have e2 : co = (p : Int) + (m : Int) + 1 := by rw [q2]; omega
      rw [e1] at c1
      rw [e2] at c2
      clear hat hoc q1 q2 q5 hlm hR e1 e2
      go_wp2_with fail
      refine (heldInt64S_any _ _ _ p _ hT hp4).mono ?_
      rintro e w2 ⟨rfl, rfl⟩
      have hp2 : Hid (p + m + 1 + 1 = k + sumO os (j + 1)) := by show _ = _; have := hp.out; have := HLM.out; simp only [sumO]; omega
      clear hp hT HLM hmono
      go_wp2
      go_round
      case rel => exact ⟨j + 1, p + m + 1 + 1, by omega, by go_num, by go_num, hp2⟩
      case measure => simp [intOf]; omega
    · obtain rfl : n = j := by omega
      go_wp2
      go_ret
      exact ⟨ret_int (by have := hp.out; omega), rfl⟩
end Go.Proofs.YtmooecbdpfhnlaaGreat
/- Slices of Outcomes as answers of a law. -/
namespace Go.Proofs.YtmooecbdpfhnlaaGreat
open Go.RowKit

/-- A slice of Outcomes, and the rows that its cells are. -/
structure OSl where
  sl : Sl
  rs : List OcR
def oslV (s : OSl) : Value := slV s.sl
/-- What it reads as. -/
def RdO (w : World) (s : OSl) (os : List Oc) : Prop := ∃ B E, OwnO w B E s.sl.1 s.sl.2.1 s.sl.2.2 s.rs os
/-- It is the call's own. -/
def OwO (w : World) (B : Nat) (s : OSl) (os : List Oc) : Prop := OwnO w B B s.sl.1 s.sl.2.1 s.sl.2.2 s.rs os ∧ ApartO s.rs
def OIn (lo hi : Nat) (s : OSl) : Prop := InO lo hi s.sl.1 s.sl.2.1 s.sl.2.2 s.rs
theorem RdO.below {w w' : World} {s : OSl} {os : List Oc} (h : RdO w s os) (hb : Below w.heap.size w w') : RdO w' s os := by
  obtain ⟨B, E, h⟩ := h
  exact ⟨B, E, h.below hb⟩
theorem OwO.below {w w' : World} {B : Nat} {s : OSl} {os : List Oc} (h : OwO w B s os) (hb : Below w.heap.size w w') : OwO w' B s os := ⟨h.1.below hb, h.2⟩
theorem OwO.reads {w : World} {B : Nat} {s : OSl} {os : List Oc} (h : OwO w B s os) : RdO w s os := ⟨B, B, h.1⟩
theorem OwO.inside {w : World} {B : Nat} {s : OSl} {os : List Oc} (h : OwO w B s os) : OIn B w.heap.size s :=
  ⟨fun g hg => h.1.block g hg, fun i g hi hg => (h.1.2.2.2 i hi).2.2.2.2.block g hg⟩
theorem OwnO.span {w w' : World} {B E lo hi : Nat} {a : Option Addr} {n c : Nat} {rs : List OcR} {os : List Oc} (h : OwnO w B E a n c rs os) (hs : Span lo hi w w') (hB : hi ≤ B) (hE : hi ≤ E) : OwnO w' B E a n c rs os :=
  ⟨ownsRow_span h.1 hs (fun g hg => .inr (Nat.le_trans hB (h.1.lt g hg).1)), h.2.1, h.2.2.1, fun i hi' => ⟨(h.2.2.2 i hi').1, (h.2.2.2 i hi').2.1, (h.2.2.2 i hi').2.2.1, (h.2.2.2 i hi').2.2.2.1, (h.2.2.2 i hi').2.2.2.2.span hs hE⟩⟩
theorem OwO.span {w w' : World} {B lo hi : Nat} {s : OSl} {os : List Oc} (h : OwO w B s os) (hs : Span lo hi w w') (hB : hi ≤ B) : OwO w' B s os := ⟨h.1.span hs hB hB, h.2⟩
theorem eqOcs_same (a b : OSl) (os : List Oc) (w : World) (h : RdO w a os) (h' : RdO w b os) : Calls Tryz.prog 36 #[oslV a, oslV b] w fun e w' => e = .returned (.bool true) ∧ Below w.heap.size w w' := by
  obtain ⟨B, E, h⟩ := h
  obtain ⟨B', E', h'⟩ := h'
  have hn : b.sl.2.1 = a.sl.2.1 := by rw [← h.2.2.1, ← h'.2.2.1]
  obtain ⟨⟨a1, n1, c1⟩, ra⟩ := a
  obtain ⟨⟨a2, n2, c2⟩, rb⟩ := b
  obtain rfl : n2 = n1 := hn
  exact eqOutcomeS_same B E B' E' a1 a2 n2 c1 c2 ra rb os w h h'
/-- Marked from k on. -/
def MkO (w : World) (sl : Sl) (os : List Oc) (k : Nat) : Prop := ∃ B E rs, OwnO w B E sl.1 sl.2.1 sl.2.2 rs (MarkO os k sl.2.1)
theorem MkO.below {w w' : World} {s : Sl} {os : List Oc} {k : Nat} (h : MkO w s os k) (hb : Below w.heap.size w w') : MkO w' s os k := by
  obtain ⟨B, E, rs, h⟩ := h
  exact ⟨B, E, rs, h.below hb⟩
theorem MkO.reads {w : World} {s : Sl} {os : List Oc} {k : Nat} (h : MkO w s os k) : MkO w s os k := h
theorem markOcs_ans (s : OSl) (os : List Oc) (k : Nat) (w : World) (B : Nat) (h : OwO w B s os) (hk : k ≤ 1000) (hz : sumO os os.length ≤ 1000000) {lo hi : Nat} (hin : OIn lo hi s) :
    Calls Tryz.prog 43 #[oslV s, .int .i64 (k : Int)] w fun e w' => e = .returned (.int .i64 ((k + sumO os os.length : Nat) : Int)) ∧ MkO w' s.sl os k ∧ Span lo hi w w' := by
  have hl : os.length = s.sl.2.1 := h.1.2.2.1
  rw [hl] at hz ⊢
  refine (markOutcomeS_any s.sl.1 s.sl.2.1 s.sl.2.2 s.rs os k w B B lo hi h.1 h.2 hin (by omega) hz).mono ?_
  rintro e w' ⟨he, rs, h1, _, _, h4⟩
  exact ⟨he, ⟨B, B, rs, h1⟩, h4⟩
theorem heldOcs_ans (s : OSl) (os : List Oc) (k : Nat) (w : World) (h : MkO w s.sl os k) (hk : k ≤ 1000) (hz : sumO os os.length ≤ 1000000) :
    Calls Tryz.prog 44 #[oslV s, .int .i64 (k : Int)] w fun e w' => e = .returned (.int .i64 ((k + sumO os os.length : Nat) : Int)) ∧ Below w.heap.size w w' := by
  obtain ⟨B, E, rs, h⟩ := h
  have hl : os.length = s.sl.2.1 := by have := h.2.2.1; rwa [markO_len] at this
  rw [hl] at hz ⊢
  refine (heldOutcomeS_any s.sl.1 s.sl.2.1 s.sl.2.2 rs os k w B E h (by omega) hz).mono ?_
  rintro e w' ⟨he, rfl⟩
  exact ⟨he, Below.refl _ _⟩
/-- What a law asks of an answer of Outcomes. -/
def AnsOcs (w : World) (os : List Oc) (e : Ending) (w' : World) : Prop := Below w.heap.size w w' ∧ ∃ s : OSl, e = .returned (oslV s) ∧ OwO w' w.heap.size s os
def AnsROcs (w : World) (os : List Oc) (e : Ending) (w' : World) : Prop := Below w.heap.size w w' ∧ ∃ s : OSl, e = .returned (oslV s) ∧ RdO w' s os
theorem sumO_le (os : List Oc) (h : ∀ o ∈ os, o.1.length ≤ 400) : ∀ i, i ≤ os.length → sumO os i ≤ 402 * i
  | 0, _ => by simp [sumO]
  | i + 1, hi => by
    have h1 := sumO_le os h i (by omega)
    have h2 := h _ (oAt_mem (os := os) (k := i) (by omega))
    simp only [sumO]; omega
end Go.Proofs.YtmooecbdpfhnlaaGreat
/- The answers of AllOutcomes, as a law asks for them. -/
namespace Go.Proofs.YtmooecbdpfhnlaaGreat
open Go.RowKit

theorem ocAt_len (p : Prg) (i : Nat) : (ocAt p i).1.length ≤ 400 := outR_len _ _ _
theorem sumO_sub (p : Prg) {os : List Oc} (hz : codeB p = 0) (hn : os.Nodup) (hs : ∀ o ∈ os, o ∈ tabOut p (prodL (maxesP p)).toNat) : sumO os os.length ≤ 1000000 := by
  have hl : ∀ o ∈ os, o.1.length ≤ 400 := fun o ho => by
    obtain ⟨i, _, rfl⟩ := List.mem_map.1 (hs o ho)
    exact ocAt_len p i
  have h1 := sumO_le os hl os.length (Nat.le_refl _)
  have h2 := nodup_sub_len hn hs
  rw [tabOut, List.length_map, List.length_range] at h2
  have h3 := prod_bits hz
  omega
theorem allO_sum (p : Prg) : sumO (allO p) (allO p).length ≤ 1000000 := by
  by_cases hz : codeB p = 0
  · have e : allO p = diffL (tabOut p (prodL (maxesP p)).toNat) := by rw [allO, if_pos hz]
    rw [e]
    exact sumO_sub p hz (diffL_nodup _) (fun o ho => (mem_diffL _).1 ho)
  · rw [allO, if_neg hz]; simp [sumO]
theorem specAllOutcomes_ans (r : PRow) (p : Prg) (w : World) (h : ProgAt w r p) : Calls Tryz.prog 26 #[progV r] w (AnsROcs w (allO p)) := (specAllOutcomes_any r p w h).mono (fun _ _ h => by
  obtain ⟨hb, a, n, c, rs, he, ho⟩ := h
  exact ⟨hb, ⟨(a, n, c), rs⟩, he, _, _, ho⟩)
theorem implAllOutcomes_ans (r : PRow) (p : Prg) (w : World) (h : ProgAt w r p) (hcap : r.body.2.1 ≤ r.body.2.2) : Calls Tryz.prog 23 #[progV r] w (AnsOcs w (allO p)) := (implAllOutcomes_any r p w h hcap).mono (fun _ _ h => by
  obtain ⟨hb, a, n, c, rs, he, ho, ha⟩ := h
  exact ⟨hb, ⟨(a, n, c), rs⟩, he, ho, ha⟩)
end Go.Proofs.YtmooecbdpfhnlaaGreat
