/- The contract of the program's PartsOf: the Terms of each tree under the last one, each in memory of its own. -/
import Derived.Test.YtjfdmdemgnponaaTreeOf
import Derived.Test.YtjfdmdemgnponaaTermSS
namespace Go.Proofs.Ytjfdmdemgnponaa
open Go.RowKit

/-- What PartsOf answers. -/
def partsL (ts : List Tm) : List (List Tm) := if expB ts = true then (match stackOf ts with | [.node _ _ kids] => kids.map Tr.flat | _ => []) else []
theorem partsL_no {ts : List Tm} (h : expB ts = false) : partsL ts = [] := by unfold partsL; rw [h]; rfl
theorem partsL_yes {ts : List Tm} {op n : Int} {kids : List Tr} (h : expB ts = true) (hs : stackOf ts = [.node op n kids]) : partsL ts = kids.map Tr.flat := by unfold partsL; rw [if_pos h, hs]
theorem Keeps.trans {w w1 w2 : World} {F F1 F2 : Nat → Prop} (h : Keeps w F w1 F1) (k : Keeps w1 F1 w2 F2) : Keeps w F w2 F2 := fun b cur fz hF hh => by
  obtain ⟨e1, f1⟩ := h b cur fz hF hh
  obtain ⟨e2, f2⟩ := k b cur fz f1 (e1.trans hh)
  exact ⟨e2.trans e1, f2⟩
theorem keeps_refl (w : World) (F : Nat → Prop) : Keeps w F w F := fun _ _ _ hF _ => ⟨rfl, hF⟩
theorem map_flat_succ (kids : List Tr) (k : Nat) (h : k < kids.length) : (kids.take (k + 1)).map Tr.flat = (kids.take k).map Tr.flat ++ [(kids.getD k default).flat] := by
  rw [List.take_succ_eq_append_getElem h, List.map_append, List.getD_eq_getElem?_getD, List.getElem?_eq_getElem h]; rfl

set_option maxRecDepth 100000 in
set_option maxHeartbeats 4000000 in
theorem partsOf_any (a : Option Addr) (n c : Nat) (ts : List Tm) (w : World) (h : Terms w a n ts) :
    Calls Try.prog 12 #[.slice a n c] w (MadeSS w (partsL ts)) := by
  have HL := Lib.hid h.1
  cases hok : expB ts with
  | false =>
    have HP := Lib.hid (partsL_no hok)
    have HK := Lib.hid hok
    clear hok
    go_enter Try.func12, Try.ntmps12
    go_wp2_with fail
    refine (expOk_any _ _ _ ts _ h).mono ?_
    rintro e w1 ⟨rfl, hb1⟩
    rw [HK.out]
    go_wp2_with fail
    go_ret
    exact ⟨none, 0, 0, [], rfl, by rw [HP.out]; exact ownSS_nil _ _, hb1⟩
  | true =>
    have HK := Lib.hid hok
    have hle := ((expB_iff ts).1 hok).1
    have hn : n ≤ 3000 := by have := HL.out; omega
    have HX := Lib.hid ((expB_iff ts).1 hok).2
    obtain ⟨op, nn, kids, hstk, hts, hop, hkl, hkok⟩ := tree_of ((expB_iff ts).1 hok).2
    have HS := Lib.hid hstk
    have HP := Lib.hid (partsL_yes hok hstk)
    have hfl : (Tr.flats kids).length + 1 ≤ 3000 := by
      have e := congrArg List.length hts
      rw [List.length_append, List.length_singleton] at e
      omega
    clear hok hstk hts hop hle
    have HKL := Lib.hid hkl
    clear hkl
    go_enter Try.func12, Try.ntmps12
    go_wp2_with fail
    refine (expOk_any _ _ _ ts _ h).mono ?_
    rintro e w1 ⟨rfl, hb1⟩
    rw [HK.out]
    go_wp2_with fail
    refine (treeOf_any _ _ _ ts _ _ (h.below (Nat.le_refl _) hb1) hn HX HS).mono ?_
    rintro e w2 ⟨u, z, rfl, hIT, hb2⟩
    have ht2 : Below w.heap.size w w2 := hb1.trans (hb2.mono hb1.size)
    clear hb1 hb2
    cases hIT with
    | num x =>
      have m1 := m_num_under (.int .i64 nn)
      go_wp2_with fail
      refine (num_under _ _).mono ?_
      rintro e w3 ⟨rfl, hb3⟩
      have ht3 : Below w.heap.size w w3 := ht2.trans (hb3.mono ht2.size)
      skip
      clear hb3
      go_wp2
      go_loopw [3, 13] (fun pt i wr => ∃ (k : Nat) (pa : Option Addr) (pc : Nat) (rs : List Sl), k ≤ 0 ∧ i = .int .i64 k ∧ pt = .slice pa k pc ∧ OwnSS wr w.heap.size pa k pc rs ((([]).take k).map Tr.flat) ∧ Hid (Keeps w3 (fun _ => True) wr (fun _ => True)) ∧ Below w.heap.size w wr) (fun _ i _ => 0 - (intOf i).toNat)
      case atStart => exact ⟨0, none, 0, [], Nat.zero_le _, rfl, rfl, ownSS_nil _ _, keeps_refl _ _, ht3⟩
      case round =>
        obtain ⟨k, pa, pc, rs, hk, rfl, rfl, hss, hkp, hbel⟩ := hrel
        by_cases hlt : k < 0
        · omega
        · obtain rfl : 0 = k := by omega
          have hall : (([]).take (0)).map Tr.flat = ([]).map Tr.flat := by rw [List.take_of_length_le (by simp)]
          rw [hall] at hss
          clear hall
          go_wp2
          go_ret
          exact ⟨pa, _, pc, rs, rfl, by rw [HP.out]; exact hss, hbel⟩
    | var x =>
      have m1 := m_var_under (.int .i64 nn)
      go_wp2_with fail
      refine (var_under _ _).mono ?_
      rintro e w3 ⟨rfl, hb3⟩
      have ht3 : Below w.heap.size w w3 := ht2.trans (hb3.mono ht2.size)
      skip
      clear hb3
      go_wp2
      go_loopw [3, 13] (fun pt i wr => ∃ (k : Nat) (pa : Option Addr) (pc : Nat) (rs : List Sl), k ≤ 0 ∧ i = .int .i64 k ∧ pt = .slice pa k pc ∧ OwnSS wr w.heap.size pa k pc rs ((([]).take k).map Tr.flat) ∧ Hid (Keeps w3 (fun _ => True) wr (fun _ => True)) ∧ Below w.heap.size w wr) (fun _ i _ => 0 - (intOf i).toNat)
      case atStart => exact ⟨0, none, 0, [], Nat.zero_le _, rfl, rfl, ownSS_nil _ _, keeps_refl _ _, ht3⟩
      case round =>
        obtain ⟨k, pa, pc, rs, hk, rfl, rfl, hss, hkp, hbel⟩ := hrel
        by_cases hlt : k < 0
        · omega
        · obtain rfl : 0 = k := by omega
          have hall : (([]).take (0)).map Tr.flat = ([]).map Tr.flat := by rw [List.take_of_length_le (by simp)]
          rw [hall] at hss
          clear hall
          go_wp2
          go_ret
          exact ⟨pa, _, pc, rs, rfl, by rw [HP.out]; exact hss, hbel⟩
    | cell x v0 T0 h0 =>
      obtain ⟨u0, x0, rfl⟩ := h0.iface
      have m1 := m_cell_under (.int .i64 nn) (.iface u0 x0)
      go_wp2_with fail
      refine (cell_under _ _ _ _).mono ?_
      rintro e w3 ⟨g, rfl, hg1, hg2, hb3⟩
      have ht3 : Below w.heap.size w w3 := ht2.trans (hb3.mono ht2.size)
      have hrow : RowV w3 (fun _ => True) (some ⟨g, 0, none⟩) 1 [.iface u0 x0] := row_one hg2
      have HKIDS : Hid (∀ i, i < 1 → IsTree w3 (fun _ => True) (([.iface u0 x0] : List Value).getD i .nilIface) (([T0] : List Tr).getD i default)) := fun i hi => by
        obtain rfl : i = 0 := by omega
        exact h0.keep (keeps_below hb3)
      clear h0 hg2
      clear hb3
      go_wp2
      go_loopw [3, 13] (fun pt i wr => ∃ (k : Nat) (pa : Option Addr) (pc : Nat) (rs : List Sl), k ≤ 1 ∧ i = .int .i64 k ∧ pt = .slice pa k pc ∧ OwnSS wr w.heap.size pa k pc rs ((([T0]).take k).map Tr.flat) ∧ Hid (Keeps w3 (fun _ => True) wr (fun _ => True)) ∧ Below w.heap.size w wr) (fun _ i _ => 1 - (intOf i).toNat)
      case atStart => exact ⟨0, none, 0, [], Nat.zero_le _, rfl, rfl, ownSS_nil _ _, keeps_refl _ _, ht3⟩
      case round =>
        obtain ⟨k, pa, pc, rs, hk, rfl, rfl, hss, hkp, hbel⟩ := hrel
        by_cases hlt : k < 1
        · obtain ⟨b, o, hka, hbl, hcell⟩ := (hrow.keep hkp.out).at_ hlt
          have hkid := (HKIDS.out k hlt).keep hkp.out
          injection hka with hka; injection hka with e1 e2; subst e1 e2
          obtain ⟨u, y, hv⟩ := hkid.iface
          rw [hv] at hcell hkid
          clear hv
          simp only [Nat.zero_add] at hcell
          have hkl2 := flats_take_le ([T0]) k (by simp; omega)
          have hko := oks_getD hkok (i := k) (by simp; omega)
          have HM := Lib.hid (map_flat_succ ([T0]) k (by simp; omega))
          have hb3 : ([] : List Tm).length + (([T0]).getD k default).flat.length ≤ 3000 := by simp only [List.length_nil]; omega
          generalize ([T0]).getD k default = T1 at *
          go_wp2_with fail
          refine (appendTree_any T1 _ wr wr.heap.size none 0 0 [] hko hkid (ownT_nil _ _) (Nat.le_refl _) hb3).mono ?_
          rintro e w4 ⟨a2, n2, c2, rfl, hown2, hgr2⟩
          have hb4 : Below wr.heap.size wr w4 := hgr2.below (Nat.le_refl _) (fun g hg => by simp [Value.ownBlock] at hg)
          rw [List.nil_append] at hown2
          have hss4 := hss.below hb4
          have hbs : w.heap.size ≤ wr.heap.size := hbel.size
          have hbs4 : wr.heap.size ≤ w4.heap.size := hb4.size
          clear hkid hcell hb3 hkl2 hko hgr2
          go_wp2_with (at_builtin; refine wpList_pushG _ rfl _ _ 26 24 (.slice none 0 0) 1 24 rfl Try.underlying26 info_terms rfl (by omega) w.heap.size _ _ _ (rs.map slV) rfl (hss4.1.alloc _) ⟨w4.heap.size, 0, none⟩ 1 1 [slV (a2, n2, c2)] rfl rfl (World.news_of_block (cs := #[slV (a2, n2, c2)]) (t := 24) (fr := (0, 0)) (heap_alloc_new w4 _)) (fun u hu => by rw [List.mem_singleton] at hu; subst hu; rfl) (by unfold maxLen; omega) (by omega) (by simp; omega) ?_)
          intro a5 c5 w5 hown5 hgr5
          have hss5 := ownSS_push (r := (a2, n2, c2)) hss hb4 hown2 hbs hgr5.1 hown5 (by omega)
          have hkp5 : Hid (Keeps w3 (fun _ => True) w5 (fun _ => True)) := ((hkp.out.trans (keeps_below hb4)).trans (keeps_below ((Below.refl _ _).alloc (Nat.le_refl _) _))).trans (keeps_own (hss4.1.alloc _) hgr5.1 (by decide))
          have hbel5 : Below w.heap.size w w5 := (((hbel.trans (hb4.mono hbs))).alloc (by omega) _).grown hgr5.1 (by simp; omega) (fun g hg => (hss4.1.lt g hg).1)
          clear hss hss4 hown2 hown5 hgr5 hb4 hbel hkp
          go_wp2
          go_roundw
          case rel => exact ⟨k + 1, a5, c5, rs ++ [(a2, n2, c2)], by omega, by go_num, rfl, by rw [HM.out]; exact hss5, hkp5, hbel5⟩
          case measure => simp [intOf]; omega
        · obtain rfl : 1 = k := by omega
          have hall : (([T0]).take (1)).map Tr.flat = ([T0]).map Tr.flat := by rw [List.take_of_length_le (by simp)]
          rw [hall] at hss
          clear hall
          go_wp2
          go_ret
          exact ⟨pa, _, pc, rs, rfl, by rw [HP.out]; exact hss, hbel⟩
    | op k0 ka m kc vs _ h1 h2 h3 h4 h5 h6 =>
      have m1 := m_op_under (.int .i64 op) (.slice ka m kc)
      have h4' := Lib.hid h4
      clear h4
      go_wp2_with fail
      refine (op_under _ _ _ _ _).mono ?_
      rintro e w3 ⟨rfl, hb3⟩
      have ht3 : Below w.heap.size w w3 := ht2.trans (hb3.mono ht2.size)
      have hrow := h5.keep (keeps_below hb3)
      have HKIDS : Hid (∀ i, i < m → IsTree w3 (fun _ => True) (vs.getD i .nilIface) (kids.getD i default)) := fun i hi => (h6 i hi).keep (keeps_below hb3)
      clear h5 h6
      clear hb3
      go_wp2
      go_loopw [3, 13] (fun pt i wr => ∃ (k : Nat) (pa : Option Addr) (pc : Nat) (rs : List Sl), k ≤ m ∧ i = .int .i64 k ∧ pt = .slice pa k pc ∧ OwnSS wr w.heap.size pa k pc rs (((kids).take k).map Tr.flat) ∧ Hid (Keeps w3 (fun _ => True) wr (fun _ => True)) ∧ Below w.heap.size w wr) (fun _ i _ => m - (intOf i).toNat)
      case atStart => exact ⟨0, none, 0, [], Nat.zero_le _, rfl, rfl, ownSS_nil _ _, keeps_refl _ _, ht3⟩
      case round =>
        obtain ⟨k, pa, pc, rs, hk, rfl, rfl, hss, hkp, hbel⟩ := hrel
        by_cases hlt : k < m
        · obtain ⟨b, o, hka, hbl, hcell⟩ := (hrow.keep hkp.out).at_ hlt
          have hkid := (HKIDS.out k hlt).keep hkp.out
          subst hka
          obtain ⟨u, y, hv⟩ := hkid.iface
          rw [hv] at hcell hkid
          clear hv
          skip
          have hkl2 := flats_take_le (kids) k (by rw [h4'.out]; omega)
          have hko := oks_getD hkok (i := k) (by rw [h4'.out]; omega)
          have HM := Lib.hid (map_flat_succ (kids) k (by rw [h4'.out]; omega))
          have hb3 : ([] : List Tm).length + ((kids).getD k default).flat.length ≤ 3000 := by simp only [List.length_nil]; omega
          generalize (kids).getD k default = T1 at *
          go_wp2_with fail
          refine (appendTree_any T1 _ wr wr.heap.size none 0 0 [] hko hkid (ownT_nil _ _) (Nat.le_refl _) hb3).mono ?_
          rintro e w4 ⟨a2, n2, c2, rfl, hown2, hgr2⟩
          have hb4 : Below wr.heap.size wr w4 := hgr2.below (Nat.le_refl _) (fun g hg => by simp [Value.ownBlock] at hg)
          rw [List.nil_append] at hown2
          have hss4 := hss.below hb4
          have hbs : w.heap.size ≤ wr.heap.size := hbel.size
          have hbs4 : wr.heap.size ≤ w4.heap.size := hb4.size
          clear hkid hcell hb3 hkl2 hko hgr2
          go_wp2_with (at_builtin; refine wpList_pushG _ rfl _ _ 26 24 (.slice none 0 0) 1 24 rfl Try.underlying26 info_terms rfl (by omega) w.heap.size _ _ _ (rs.map slV) rfl (hss4.1.alloc _) ⟨w4.heap.size, 0, none⟩ 1 1 [slV (a2, n2, c2)] rfl rfl (World.news_of_block (cs := #[slV (a2, n2, c2)]) (t := 24) (fr := (0, 0)) (heap_alloc_new w4 _)) (fun u hu => by rw [List.mem_singleton] at hu; subst hu; rfl) (by unfold maxLen; omega) (by omega) (by simp; omega) ?_)
          intro a5 c5 w5 hown5 hgr5
          have hss5 := ownSS_push (r := (a2, n2, c2)) hss hb4 hown2 hbs hgr5.1 hown5 (by omega)
          have hkp5 : Hid (Keeps w3 (fun _ => True) w5 (fun _ => True)) := ((hkp.out.trans (keeps_below hb4)).trans (keeps_below ((Below.refl _ _).alloc (Nat.le_refl _) _))).trans (keeps_own (hss4.1.alloc _) hgr5.1 (by decide))
          have hbel5 : Below w.heap.size w w5 := (((hbel.trans (hb4.mono hbs))).alloc (by omega) _).grown hgr5.1 (by simp; omega) (fun g hg => (hss4.1.lt g hg).1)
          clear hss hss4 hown2 hown5 hgr5 hb4 hbel hkp
          go_wp2
          go_roundw
          case rel => exact ⟨k + 1, a5, c5, rs ++ [(a2, n2, c2)], by omega, by go_num, rfl, by rw [HM.out]; exact hss5, hkp5, hbel5⟩
          case measure => simp [intOf]; omega
        · obtain rfl : m = k := by omega
          have hall : ((kids).take (m)).map Tr.flat = (kids).map Tr.flat := by rw [List.take_of_length_le (by rw [h4'.out]; omega)]
          rw [hall] at hss
          clear hall
          go_wp2
          go_ret
          exact ⟨pa, _, pc, rs, rfl, by rw [HP.out]; exact hss, hbel⟩
end Go.Proofs.Ytjfdmdemgnponaa
