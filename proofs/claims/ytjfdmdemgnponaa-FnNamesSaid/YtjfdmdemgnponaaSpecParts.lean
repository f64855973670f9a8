/- The contract of the model's PartsOf, and of its l2Copy. -/
import Derived.Test.YtjfdmdemgnponaaParts
import Derived.Test.YtjfdmdemgnponaaFirst
namespace Go.Proofs.Ytjfdmdemgnponaa
open Go.RowKit

theorem terms_news {w : World} {b o n : Nat} {ts : List Tm} (h : Terms w (some ⟨b, o, none⟩) n ts) : ∀ j u, (flatV ts)[j]? = some u → w.cell? ((⟨b, o, none⟩ : Addr).add j) = some u := by
  intro j u hj
  have hl := h.1
  have hjl : j < ts.length * 2 := by have := (List.getElem?_eq_some_iff.1 hj).1; rw [flatV_len] at this; exact this
  obtain ⟨b', o', e, _, hc⟩ := h.2.2.2 (by omega)
  injection e with e
  injection e with e1 e2
  subst e1 e2
  rw [Go.WideShapes.add_plain, ← hj]
  have hf := flatV_at ts (j / 2) (by omega)
  have hcc := hc (j / 2) (by omega)
  rcases Nat.mod_two_eq_zero_or_one j with h0 | h0
  · have ej : j = j / 2 * 2 := by omega
    rw [ej, hf.1]; exact hcc.1
  · have ej : j = j / 2 * 2 + 1 := by omega
    rw [ej, hf.2, ← Nat.add_assoc]; exact hcc.2
theorem flatV_one : ∀ (ts : List Tm), ∀ u ∈ flatV ts, u.oneCell' = true := by
  intro ts u hu
  obtain ⟨t, _, h⟩ := List.mem_flatMap.1 hu
  simp at h
  rcases h with rfl | rfl <;> rfl
theorem own_emptyT (w : World) (B : Nat) (hB : B ≤ w.heap.size) : (w.alloc (.cells #[] 31)).ownsRow B 31 2 (.slice (some ⟨w.heap.size, 0, none⟩) 0 0) 0 [] := World.ownsRow_lit w #[] 0 hB (by unfold maxLen; omega) rfl

set_option maxHeartbeats 400000 in
theorem l2Copy_any (b o n c : Nat) (ts : List Tm) (w : World) (h : Terms w (some ⟨b, o, none⟩) n ts) (hb : b < w.heap.size) :
    Calls Try.prog 47 #[.slice (some ⟨b, o, none⟩) n c] w (MadeT w ts) := by
  have HL := Lib.hid h.1
  have hbd := h.2.1
  have HN : Hid (∀ (ob : Obj) j u, (flatV ts)[j]? = some u → (w.alloc ob).cell? ((⟨b, o, none⟩ : Addr).add j) = some u) := fun ob j u hj => by
    have := terms_news h j u hj
    rw [Go.WideShapes.add_plain] at this ⊢
    rw [World.cell?_alloc_lt w ob _ hb]; exact this
  go_enter Try.func47, Try.ntmps47
  go_wp2_with (at_builtin; refine wpList_pushG _ rfl _ _ 24 31 (.agg #[.int .i64 0, .int .i64 0]) 2 16 rfl Try.underlying24 info_term rfl (by omega) w.heap.size _ 0 0 [] rfl (own_emptyT w _ (Nat.le_refl _)) ⟨b, o, none⟩ n c (flatV ts) rfl (by rw [flatV_len, HL.out]) (HN.out _) (flatV_one ts) (by unfold maxLen; omega) (by omega) (by simp) ?_)
  intro a1 c1 w1 hown hgr
  have hb1 : Below w.heap.size w w1 := ((Below.refl _ _).alloc (Nat.le_refl _) _).grown hgr.1 (by simp) (fun k hk => by simp [Value.ownBlock] at hk; omega)
  have hot : OwnT w1 w.heap.size a1 n c1 ts := ⟨by simpa using hown, hbd, h.2.2.1⟩
  clear hown hgr
  go_wp2
  go_ret
  exact ⟨a1, n, c1, rfl, hot, hb1⟩

/-- A part of a slice of Terms. -/
theorem Terms.part {w : World} {b o n : Nat} {ts p t q : List Tm} (h : Terms w (some ⟨b, o, none⟩) n ts) (e : ts = p ++ (t ++ q)) : Terms w (some ⟨b, o + p.length * 2, none⟩) t.length t := by
  obtain ⟨hl, hn, hin, hc⟩ := h
  have hlen : ts.length = p.length + (t.length + q.length) := by rw [e]; simp
  refine ⟨rfl, by omega, fun x hx => hin x (by rw [e]; simp [hx]), fun hp => ?_⟩
  obtain ⟨b', o', ea, hb, hcell⟩ := hc (by omega)
  injection ea with ea
  injection ea with e1 e2
  subst e1 e2
  refine ⟨b, _, rfl, hb, fun i hi => ?_⟩
  have := hcell (p.length + i) (by omega)
  have et : tmAt ts (p.length + i) = tmAt t i := by rw [e, tmAt_append_right, tmAt_append_left hi]
  rw [et, show o + (p.length + i) * 2 = o + p.length * 2 + i * 2 by omega] at this
  exact this

theorem ownSS_cons {w0 w w' : World} {B : Nat} {a : Option Addr} {n c : Nat} {rs : List Sl} {tss : List (List Tm)} {o : Obj} {a1 : Option Addr} {c1 : Nat} {r : Sl} {ts : List Tm}
    (h0 : OwnSS w0 B a n c rs tss) (hb : Below w0.heap.size w0 w) (hr : OwnT w w0.heap.size r.1 r.2.1 r.2.2 ts) (hB : B ≤ w0.heap.size)
    (hg : (w.alloc o).grownBy w' (some w.heap.size)) (hown : w'.ownsRow B 24 1 (.slice a1 (1 + n) c1) (1 + n) ([slV r] ++ rs.map slV)) (hn : 1 + n ≤ 3000) :
    OwnSS w' B a1 (1 + n) c1 (r :: rs) (ts :: tss) := by
  have hl := h0.len
  obtain ⟨h11, h12, h13, h14, h15⟩ := h0.below hb
  have hkeep : ∀ {B' : Nat} {x : Sl} {us : List Tm}, OwnT w B' x.1 x.2.1 x.2.2 us → OwnT w' B' x.1 x.2.1 x.2.2 us := fun hx =>
    (hx.alloc o).apart hg (fun g hgg e => by have := (hx.block g hgg).2; injection e with e; omega)
  refine ⟨by simpa using hown, hn, by simp [h13]; omega, fun i hi => ?_, fun i j g hi hj hgi hgj => ?_⟩
  · cases i with
    | zero => exact hkeep (hr.base hB)
    | succ i => exact hkeep (h14 i (by omega))
  · have hnew : ∀ g, (slV r).ownBlock = some g → w0.heap.size ≤ g := fun g hg => (hr.block g hg).1
    have hold : ∀ i, i < n → ∀ g, (slV (slAt rs i)).ownBlock = some g → g < w0.heap.size := fun i hi g hg => ((h0.2.2.2.1 i hi).block g hg).2
    cases i with
    | zero =>
      cases j with
      | zero => rfl
      | succ j =>
        have := hold j (by omega) g hgj
        have := hnew g hgi
        omega
    | succ i =>
      cases j with
      | zero =>
        have := hold i (by omega) g hgi
        have := hnew g hgj
        omega
      | succ j => rw [h15 i j g (by omega) (by omega) hgi hgj]

set_option maxRecDepth 100000 in
set_option maxHeartbeats 1600000 in
theorem specPartsOf_any (a : Option Addr) (n c : Nat) (ts : List Tm) (w : World) (h : Terms w a n ts) (hc : n ≤ c) :
    Calls Try.prog 27 #[.slice a n c] w (MadeSS w (partsL ts)) := by
  have HL := Lib.hid h.1
  cases hok : expB ts with
  | false =>
    have HP := Lib.hid (partsL_no hok)
    have HK := Lib.hid hok
    clear hok
    go_enter Try.func27, Try.ntmps27
    go_wp2_with fail
    refine (specExpOk_any _ _ _ ts _ (h.below (Nat.le_refl _) ((Below.refl _ _).alloc (Nat.le_refl _) _))).mono ?_
    rintro e w1 ⟨rfl, hb1⟩
    rw [HK.out]
    go_wp2_with fail
    go_ret
    exact ⟨_, _, _, [], rfl, by rw [HP.out]; exact (ownSS_empty w w.heap.size (Nat.le_refl _)).below hb1, ((Below.refl _ _).alloc (Nat.le_refl _) _).trans (hb1.mono (by simp))⟩
  | true =>
    have HK := Lib.hid hok
    have hle := ((expB_iff ts).1 hok).1
    have hn : n ≤ 3000 := by have := HL.out; omega
    obtain ⟨op, nn, kids, hstk, hts, hop, hkl, hkok⟩ := tree_of ((expB_iff ts).1 hok).2
    have HP := Lib.hid (partsL_yes hok hstk)
    have HTS := Lib.hid hts
    have hnl : n = (Tr.flats kids).length + 1 := by
      have e := congrArg List.length hts
      rw [List.length_append, List.length_singleton] at e
      rw [← HL.out]; exact e
    obtain ⟨b, o, x, y, rfl, hb, hz, hin1, hin2, hc1, hc2⟩ := h.at_ (k := n - 1) (by omega)
    have hxop : x = op := by
      have e : tmAt ts (n - 1) = (op, nn) := by
        rw [hts, show n - 1 = (Tr.flats kids).length + 0 by omega, tmAt_append_right]; rfl
      rw [hz.out] at e
      injection e
    subst hxop
    obtain ⟨q, HQ⟩ : ∃ q, Hid (kids.length = q) := ⟨_, rfl⟩
    have HKL : Hid (takesI x = (q : Int)) := by show _ = _; rw [← hkl, HQ.out]
    have hq3 : q ≤ 3 := by have := HKL.out; have := takesI_range x; omega
    clear hok hstk hts hop hle hkl
    have hnl1 : (n : Int) - 2 = ((Tr.flats (kids.take q)).length : Int) - 1 := by rw [List.take_of_length_le (by rw [HQ.out]; exact Nat.le_refl _)]; omega
    have HNL := Lib.hid hnl1
    have hn0 : 0 < n := by omega
    have hfn : (Tr.flats kids).length < n := by omega
    clear hnl hnl1
    have hss0 := (ownSS_empty w w.heap.size (Nat.le_refl _))
    go_enter Try.func27, Try.ntmps27
    go_wp2_with fail
    refine (specExpOk_any _ _ _ ts _ (h.below (Nat.le_refl _) ((Below.refl _ _).alloc (Nat.le_refl _) _))).mono ?_
    rintro e w1 ⟨rfl, hb1⟩
    rw [HK.out]
    have ht1 : Below w.heap.size w w1 := ((Below.refl _ _).alloc (Nat.le_refl _) _).trans (hb1.mono (by simp))
    have hd1 : w1.cell? ⟨b, o + (n - 1) * 2, none⟩ = some (.int .i64 x) := (ht1.cell hb).trans hc1
    have hss1 := hss0.below hb1
    clear hss0 hb1 hc1 hc2
    go_wp2_with fail
    refine (specTakes_any _ _).mono ?_
    rintro e w2 ⟨rfl, hb2⟩
    rw [HKL.out, HNL.out]
    have ht2 : Below w.heap.size w w2 := ht1.trans (hb2.mono ht1.size)
    have hss2 := hss1.below hb2
    clear hss1 hb2 hd1 ht1
    go_wp2
    go_loopw [3, 4, 5] (fun out en nv wr => ∃ (j g0 pn pc : Nat) (rs : List Sl), j ≤ q ∧ nv = .int .i64 j ∧ en = .int .i64 (((Tr.flats (kids.take j)).length : Int) - 1) ∧ out = .slice (some ⟨g0, 0, none⟩) pn pc ∧ Hid (pn + j = q) ∧ OwnSS wr w.heap.size (some ⟨g0, 0, none⟩) pn pc rs ((kids.drop j).map Tr.flat) ∧ Below w.heap.size w wr) (fun _ _ nv _ => (intOf nv).toNat)
    case atStart => exact ⟨q, w.heap.size, 0, 0, [], Nat.le_refl _, rfl, rfl, rfl, Nat.zero_add _, by rw [List.drop_of_length_le (by rw [HQ.out]; exact Nat.le_refl _)]; exact hss2, ht2⟩
    case round =>
      clear hss2 ht2
      obtain ⟨j, g0, pn, pc, rs, hj, rfl, rfl, rfl, hpn, hss, hbel⟩ := hrel
      by_cases hp : 0 < j
      · obtain ⟨i, rfl⟩ : ∃ i, j = i + 1 := ⟨j - 1, by omega⟩
        obtain ⟨L, HL0⟩ : ∃ L, Hid ((Tr.flats (kids.take i)).length = L) := ⟨_, rfl⟩
        obtain ⟨K, HK0⟩ : ∃ K, Hid ((kids.getD i default).flat.length = K) := ⟨_, rfl⟩
        have hki : i < kids.length := by rw [HQ.out]; omega
        have HL1 : Hid ((Tr.flats (kids.take (i + 1))).length = L + K) := by show _ = _; rw [flats_take_succ kids i hki, List.length_append, HL0.out, HK0.out]
        have hK1 : 1 ≤ K := by rw [← HK0.out]; exact flat_pos _
        have hLK : L + K < n := by have := flats_take_le kids i hki; rw [HL0.out, HK0.out] at this; omega
        have HTS2 : Hid (ts = Tr.flats (kids.take i) ++ ((kids.getD i default).flat ++ (Tr.flats (kids.drop (i + 1)) ++ [(x, nn)]))) := by
          show _ = _
          rw [HTS.out]
          have e : kids = kids.take i ++ ([kids.getD i default] ++ kids.drop (i + 1)) := by
            rw [List.getD_eq_getElem?_getD, List.getElem?_eq_getElem hki]
            simp
          conv => lhs; rw [e]
          rw [flats_append, flats_append, flats_one]
          simp
        have hsc : ∀ at_ : Int, at_ = (L : Int) + (K : Int) - 1 → scan ts (at_.toNat + 1) 1 = L := by
          intro at_ e
          have := scan_flat (kids.getD i default) (Tr.flats (kids.take i)) (Tr.flats (kids.drop (i + 1)) ++ [(x, nn)]) 1 (by omega) (oks_getD hkok hki)
          rw [← HTS2.out, if_pos rfl, HL0.out, HK0.out] at this
          rw [show at_.toNat + 1 = L + K by omega]
          exact this
        have HSC := Lib.hid hsc
        clear hsc
        have hTer := h.below (Nat.le_refl _) hbel
        have hpart := hTer.part HTS2.out
        rw [HL0.out, HK0.out] at hpart
        have hbr : b < wr.heap.size := Nat.lt_of_lt_of_le hb hbel.size
        have HM : Hid ((kids.drop i).map Tr.flat = (kids.getD i default).flat :: (kids.drop (i + 1)).map Tr.flat) := by
          show _ = _
          rw [List.drop_eq_getElem_cons hki, List.getD_eq_getElem?_getD, List.getElem?_eq_getElem hki]; rfl
        generalize (kids.getD i default).flat = f1 at *
        rw [HL1.out]
        go_wp2_with fail
        refine (l2First_any _ _ _ ts _ hTer _ (by omega) (by omega) L (HSC.out _ (by omega))).mono ?_
        rintro e w3 ⟨rfl, hb3⟩
        have hss3 := hss.below hb3
        have hpart3 := hpart.below (Nat.le_refl _) hb3
        have hbs3 : wr.heap.size ≤ w3.heap.size := hb3.size
        have ht3 : Below w.heap.size w w3 := hbel.trans (hb3.mono hbel.size)
        clear hTer hpart hss hb3
        go_wp2_with fail
        refine (l2Copy_any _ _ _ _ f1 _ hpart3 (by omega)).mono ?_
        rintro e w4 ⟨a4, n4, c4, rfl, hown4, hb4⟩
        have hss4 := hss3.below hb4
        have hbs4 : w3.heap.size ≤ w4.heap.size := hb4.size
        have hw3 : w.heap.size ≤ w3.heap.size := ht3.size
        have HN : Hid (∀ (ob : Obj) jj u, (rs.map slV)[jj]? = some u → (w4.alloc ob).cell? ((⟨g0, 0, none⟩ : Addr).add jj) = some u) := fun ob jj u hjj => (hss4.1.alloc ob).cells (g := g0) rfl jj u hjj
        have hrl : (rs.map slV).length = pn := by rw [List.length_map]; exact hss4.len
        have HRL := Lib.hid hrl
        have hpn3 : pn ≤ 3 := by have := hpn.out; omega
        clear hrl hpart3
        go_wp2_with (at_builtin; refine wpList_pushG _ rfl _ _ 26 24 (.slice none 0 0) 1 24 rfl Try.underlying26 info_terms rfl (by omega) w.heap.size _ 1 1 [slV (a4, n4, c4)] rfl (World.ownsRow_lit w4 #[slV (a4, n4, c4)] 1 (by omega) (by unfold maxLen; omega) rfl) ⟨g0, 0, none⟩ pn pc (rs.map slV) rfl (by rw [HRL.out]; omega) (HN.out _) (fun u hu => by obtain ⟨r, _, rfl⟩ := List.mem_map.1 hu; rfl) (by unfold maxLen; omega) (by omega) (by simp; omega) ?_)
        intro a5 c5 w5 hown5 hgr5
        have hg5 : ∃ g5, a5 = some ⟨g5, 0, none⟩ := by
          rcases hown5.2 with ⟨_, h0⟩ | ⟨g, cap, cur, e, _⟩
          · omega
          · exact ⟨g, by injection e⟩
        obtain ⟨g5, rfl⟩ := hg5
        have hss5 := ownSS_cons (r := (a4, n4, c4)) hss3 hb4 hown4 hw3 hgr5.1 hown5 (by omega)
        have ht5 : Below w.heap.size w w5 := ((ht3.trans (hb4.mono hw3)).alloc (by omega) _).grown hgr5.1 (by simp; omega) (fun g hg => by simp [Value.ownBlock] at hg; omega)
        have hpn5 : Hid (1 + pn + i = q) := by show _ = _; have := hpn.out; omega
        clear hss3 hss4 hown4 hown5 hgr5 hb4 ht3 HN HRL hpn
        go_wp2
        go_roundw
        case rel => exact ⟨i, g5, 1 + pn, c5, (a4, n4, c4) :: rs, by omega, by go_num, by rw [HL0.out], rfl, hpn5, by rw [HM.out]; exact hss5, ht5⟩
        case measure => simp [intOf]
      · obtain rfl : j = 0 := by omega
        have hpn0 : pn = q := by have := hpn.out; omega
        rw [List.drop_zero] at hss
        go_wp2
        go_ret
        exact ⟨_, _, _, rs, rfl, by rw [HP.out]; exact hss, hbel⟩
end Go.Proofs.Ytjfdmdemgnponaa
