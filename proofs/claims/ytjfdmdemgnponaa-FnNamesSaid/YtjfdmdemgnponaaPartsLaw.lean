/- What the law of the parts asks of the plain mathematics. -/
import Derived.Test.YtjfdmdemgnponaaDrawAny
import Derived.Test.YtjfdmdemgnponaaLike
import Derived.Test.YtjfdmdemgnponaaLikeTerms
import Derived.Test.YtjfdmdemgnponaaGrowsW
namespace Go.Proofs.Ytjfdmdemgnponaa
open Go.RowKit

theorem expB_flat {T : Tr} (h : T.okT) (hl : T.flat.length ≤ 3000) : expB T.flat = true := (expB_iff _).2 ⟨hl, by rw [runD_flat T 0 (by omega) h]; rfl⟩
theorem split_at (kids : List Tr) (i : Nat) (hki : i < kids.length) (x nn : Int) : Tr.flats kids ++ [(x, nn)] = Tr.flats (kids.take i) ++ ((kids.getD i default).flat ++ (Tr.flats (kids.drop (i + 1)) ++ [(x, nn)])) := by
  have e : kids = kids.take i ++ ([kids.getD i default] ++ kids.drop (i + 1)) := by
    rw [List.getD_eq_getElem?_getD, List.getElem?_eq_getElem hki]
    simp
  conv => lhs; rw [e]
  rw [flats_append, flats_append, flats_one]
  simp
theorem first_part {ts : List Tm} {kids : List Tr} {x nn : Int} {i : Nat} (hok : expB ts = true) (hts : ts = Tr.flats kids ++ [(x, nn)]) (hkok : Tr.oks kids) (hki : i < kids.length) :
    firstI ts (((Tr.flats (kids.take (i + 1))).length : Int) - 1) = ((Tr.flats (kids.take i)).length : Int) := by
  have hl : (Tr.flats (kids.take (i + 1))).length = (Tr.flats (kids.take i)).length + (kids.getD i default).flat.length := by rw [flats_take_succ kids i hki, List.length_append]
  have hp := flat_pos (kids.getD i default)
  have hle := flats_take_le kids i hki
  have hlen : ts.length = (Tr.flats kids).length + 1 := by rw [hts]; simp
  rw [firstI_yes hok (by omega) (by omega)]
  have h2 := split_at kids i hki x nn
  rw [← hts] at h2
  have := scan_flat (kids.getD i default) (Tr.flats (kids.take i)) (Tr.flats (kids.drop (i + 1)) ++ [(x, nn)]) 1 (by omega) (oks_getD hkok hki)
  rw [← h2, if_pos rfl] at this
  rw [show (((Tr.flats (kids.take (i + 1))).length : Int) - 1).toNat + 1 = (Tr.flats (kids.take i)).length + (kids.getD i default).flat.length by omega, this]
theorem first_all {ts : List Tm} {kids : List Tr} {x nn : Int} (hok : expB ts = true) (hts : ts = Tr.flats kids ++ [(x, nn)]) (hT : (Tr.node x nn kids).okT) : firstI ts ((ts.length : Int) - 1) = 0 := by
  have hp : 0 < ts.length := by rw [hts]; simp
  rw [firstI_yes hok (by omega) (by omega)]
  have hfl : (Tr.node x nn kids).flat = ts := by rw [Tr.flat, hts]
  have := scan_flat (Tr.node x nn kids) [] [] 1 (by omega) hT
  rw [hfl, if_pos rfl, List.nil_append, List.append_nil, List.length_nil, Nat.zero_add] at this
  rw [show ((ts.length : Int) - 1).toNat + 1 = ts.length by omega, this]
  rfl
theorem map_flat_at {kids : List Tr} {i : Nat} (h : i < kids.length) : tsAt (kids.map Tr.flat) i = (kids.getD i default).flat := by
  simp [tsAt, List.getD_eq_getElem?_getD, List.getElem?_eq_getElem h]
end Go.Proofs.Ytjfdmdemgnponaa
