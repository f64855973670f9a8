/- Joined texts of this proof (AllAns, OfAns, MostAns), in build order. -/
import Derived.Test.YtmooecbdpfhnlaaGreatJ40
import Derived.Test.YtmooecbdpfhnlaaGreatJ37
import Derived.Test.YtmooecbdpfhnlaaGreatJ41
/- The answers of AllOutcomes, as a law asks for them. -/
namespace Go.Proofs.YtmooecbdpfhnlaaGreat
open Go.RowKit

theorem ocAt_len (p : Prg) (i : Nat) : (ocAt p i).1.length ≤ 400 := outR_len _ _ _
theorem sumO_sub (p : Prg) {os : List Oc} (hz : codeB p = 0) (hn : os.Nodup) (hs : ∀ o ∈ os, o ∈ tabOut p (prodL (maxesP p)).toNat) : sumO os os.length ≤ 1000000 := by
  have hl : ∀ o ∈ os, o.1.length ≤ 400 := fun o ho => by
    obtain ⟨i, _, rfl⟩ := List.mem_map.1 (hs o ho)
    exact ocAt_len p i
  have h1 := sumO_le os hl os.length (Nat.le_refl _)
  have h2 := nodup_sub_len hn hs
  rw [tabOut, List.length_map, List.length_range] at h2
  have h3 := prod_bits hz
  omega
end Go.Proofs.YtmooecbdpfhnlaaGreat
/- The answers of OutcomesOf, as a law asks for them. -/
namespace Go.Proofs.YtmooecbdpfhnlaaGreat
open Go.RowKit

theorem ofO_sum (p : Prg) (ls ss : List Int) (fr : List Bool) : sumO (ofO p ls ss fr) (ofO p ls ss fr).length ≤ 1000000 := by
  unfold ofO
  split
  · rename_i h
    simp only [Bool.and_eq_true] at h
    refine sumO_sub p (startB_ok h.1) (diffL_nodup _) (fun o ho => ?_)
    obtain ⟨k, hk, rfl⟩ := List.mem_map.1 ((mem_diffL _).1 ho)
    exact List.mem_map.2 ⟨k, (List.mem_filter.1 hk).1, rfl⟩
  · simp [sumO]
theorem specOutcomesOf_ans (r : PRow) (p : Prg) (a a' af : Option Addr) (n c n' c' nf cf : Nat) (ls ss : List Int) (fr : List Bool) (w : World) (h : ProgAt w r p) (h1 : Ints w a n ls) (h2 : Ints w a' n' ss) (hf : Bools w af nf fr) :
    Calls Tryz.prog 32 #[progV r, .slice a n c, .slice a' n' c', .slice af nf cf] w (AnsROcs w (ofO p ls ss fr)) := (specOutcomesOf_any r p a a' af n c n' c' nf cf ls ss fr w h h1 h2 hf).mono (fun _ _ h => by
  obtain ⟨hb, a, n, c, rs, he, ho⟩ := h
  exact ⟨hb, ⟨(a, n, c), rs⟩, he, _, _, ho⟩)
theorem implOutcomesOf_ans (r : PRow) (p : Prg) (a a' af : Option Addr) (n c n' c' nf cf : Nat) (ls ss : List Int) (fr : List Bool) (w : World) (h : ProgAt w r p) (hcap : r.body.2.1 ≤ r.body.2.2) (h1 : Ints w a n ls) (h2 : Ints w a' n' ss) (hf : Bools w af nf fr) :
    Calls Tryz.prog 18 #[progV r, .slice a n c, .slice a' n' c', .slice af nf cf] w (AnsOcs w (ofO p ls ss fr)) := by
  cases hh : (startB p ls ss && decide (nf = n')) with
  | false =>
    refine (implOutcomesOf_no r p a a' af n c n' c' nf cf ls ss fr w h hcap h1 h2 hf hh).mono ?_
    rintro e w' ⟨rfl, hb⟩
    have e0 : ofO p ls ss fr = [] := by
      rw [ofO, if_neg]
      intro h0
      simp only [Bool.and_eq_true, decide_eq_true_eq] at h0
      have hb2 := h0.1
      simp only [startB, Bool.and_eq_true] at hb2
      have := (areB_ok hb2.2.2).1
      have hn : nf = n' := by have := hf.1; have := h2.1; omega
      rw [h0.1, decide_eq_true hn] at hh
      cases hh
    rw [e0]
    exact ⟨hb, ⟨(none, 0, 0), []⟩, rfl, ownO_nil _ _ _, apartO_nil⟩
  | true =>
    simp only [Bool.and_eq_true, decide_eq_true_eq] at hh
    refine (implOutcomesOf_yes r p a a' af n c n' c' nf cf ls ss fr w h hcap h1 h2 hf hh.1 hh.2).mono ?_
    rintro e w' ⟨hb, a, n, c, rs, he, ho, ha⟩
    exact ⟨hb, ⟨(a, n, c), rs⟩, he, ho, ha⟩
end Go.Proofs.YtmooecbdpfhnlaaGreat
/- The answers of MostFor and MostJoint, as a law asks for them. -/
namespace Go.Proofs.YtmooecbdpfhnlaaGreat
open Go.RowKit

theorem specMostFor_ans (r : PRow) (p : Prg) (s : Int) (w : World) (h : ProgAt w r p) (hs : In64 s) : Calls Tryz.prog 25 #[progV r, .int .i64 s] w fun e w' => e = .returned (.int .i64 (mostForB p s)) ∧ Below w.heap.size w w' := specMostFor_any r p s w h hs
theorem implMostFor_ans (r : PRow) (p : Prg) (s : Int) (w : World) (h : ProgAt w r p) (hcap : r.body.2.1 ≤ r.body.2.2) (hs : In64 s) : Calls Tryz.prog 24 #[progV r, .int .i64 s] w fun e w' => e = .returned (.int .i64 (mostForB p s)) ∧ Below w.heap.size w w' := implMostFor_any r p s w h hcap hs
theorem specMostJoint_ans (r : PRow) (p : Prg) (w : World) (h : ProgAt w r p) : Calls Tryz.prog 45 #[progV r] w fun e w' => e = .returned (.int .i64 (mostJointB p)) ∧ Below w.heap.size w w' := specMostJoint_any r p w h
theorem implMostJoint_ans (r : PRow) (p : Prg) (w : World) (h : ProgAt w r p) (hcap : r.body.2.1 ≤ r.body.2.2) : Calls Tryz.prog 21 #[progV r] w fun e w' => e = .returned (.int .i64 (mostJointB p)) ∧ Below w.heap.size w w' := implMostJoint_any r p w h hcap
end Go.Proofs.YtmooecbdpfhnlaaGreat
