/- The contract of the program's value (a method of its reckoner): an expression's value, or the panic of its first trap. -/
import Derived.Test.YtmooecbdpfhnlaaT33
import Derived.Deep.DeepCutAuto
namespace Go.Proofs.Ytmooecbdpfhnlaa
open Go.RowKit

/-- How value ends. -/
def ValEnd (PL : Bool) (tr : Int) (x : Nat) (e : Ending) : Prop := (PL = true ∨ tr = 0) ∧ e = .returned (.int .i64 (x : Int)) ∨ (PL = false ∧ tr ≠ 0) ∧ e = .panicked (trapC tr)
set_option maxRecDepth 20000 in
set_option maxHeartbeats 6400000 in
theorem value_any (W : Nat) (er : ERow) (PL : Bool) (v : Envr) (a : Option Addr) (n c : Nat) (ts : List Tm) (w : World) (hW1 : 1 ≤ W) (hW8 : W ≤ 8) (he : EnvAt w er v) (ht : Terms w a n ts) (hk : Reck (2 ^ W) v ts) :
    Calls Try.prog 66 #[reckV (((2 ^ W : Nat) : Int) - 1) er PL, .slice a n c] w fun e w' => ValEnd PL (trapV (2 ^ W) v.vars v.cells ts n) ((stkV (2 ^ W) v.vars v.cells ts).getD 0 0) e ∧ Below w.heap.size w w' := by
  have HOT : Hid (∀ (x : Int) (y : Nat) (a' : Option Addr) (q c' : Nat) (inn : List Nat) (w' : World), Below w.heap.size w w' → Asked (2 ^ W) v x y q inn → Ints w' a' q (zl inn) → (PL = true ∨ (valT (2 ^ W) v.vars v.cells (x, (y : Int)) inn).2 = 0) → Calls Try.prog 117 #[reckV (((2 ^ W : Nat) : Int) - 1) er PL, .agg #[.int .i64 x, .int .i64 (y : Int)], .slice a' q c'] w' fun e w'' => e = .returned (.int .i64 (zT v.vars v.cells (x, (y : Int)) inn)) ∧ Below w'.heap.size w' w'') := Lib.hid (fun x y a' q c' inn w' hb h1 h2 h3 => ofTerm_val _ er PL (2 ^ W) v x y a' q c' inn w' (he.below hb) h1 h2 hk.env h3)
  have HOP : Hid (∀ (x : Int) (y : Nat) (a' : Option Addr) (q c' : Nat) (inn : List Nat) (w' : World), Below w.heap.size w w' → Asked (2 ^ W) v x y q inn → Ints w' a' q (zl inn) → PL = false → (valT (2 ^ W) v.vars v.cells (x, (y : Int)) inn).2 ≠ 0 → Calls Try.prog 117 #[reckV (((2 ^ W : Nat) : Int) - 1) er PL, .agg #[.int .i64 x, .int .i64 (y : Int)], .slice a' q c'] w' fun e w'' => e = .panicked (trapC (valT (2 ^ W) v.vars v.cells (x, (y : Int)) inn).2) ∧ Below w'.heap.size w' w'') := Lib.hid (fun x y a' q c' inn w' hb h1 h2 h3 h4 => by subst h3; exact ofTerm_panic _ er (2 ^ W) v x y a' q c' inn w' (he.below hb) h1 h2 h4)
  have HMOD : Hid (∀ (t : Tm) (inn : List Nat), (t.1 = 0 → t.2 < ((2 ^ W : Nat) : Int)) → 0 ≤ takesI t.1 → (∀ x ∈ inn, x < 2 ^ W) → bits .and .i64 (zT v.vars v.cells t inn) (((2 ^ W : Nat) : Int) - 1) = ((valT (2 ^ W) v.vars v.cells t inn).1 : Int)) := Lib.hid (fun t inn h1 h2 h3 => by rw [and_pow _ _ hW8]; exact zT_mod hW1 hW8 hk.env h1 h2 h3)
  have HN0 : Hid (∀ t ∈ ts, t.1 = 0 → t.2 < ((2 ^ W : Nat) : Int)) := Lib.hid (fun t hm h0 => by
    have := hk.named t hm
    unfold nameOk at this
    rw [if_pos h0] at this
    exact of_decide_eq_true this)
  have HST := Lib.hid (stk_lt hW1 hk.env (ts := ts) HN0.out)
  have hS : 2 ^ W ≤ 2 ^ 8 := Nat.pow_le_pow_right (by omega) hW8
  have hS0 : 0 < 2 ^ W := Nat.pow_pos (by omega)
  obtain ⟨S, HS⟩ : ∃ S : Nat, Hid (2 ^ W = S) := ⟨_, Lib.hid rfl⟩
  have HRUN := Lib.hid hk.run
  have HNM := Lib.hid hk.named
  have HLG := Lib.hid hk.long
  simp only [HS.out] at hS hS0 HOT HOP HMOD HN0 HST HNM ⊢
  obtain ⟨g, HG⟩ : ∃ g : Int, Hid ((S : Int) - 1 = g) := ⟨_, Lib.hid rfl⟩
  simp only [HG.out] at HOT HOP HMOD ⊢
  clear HS hW1 hW8 hk HG he
  have HL := Lib.hid ht.1
  have hbd : n ≤ 3000 := by rw [← HL.out]; exact HLG.out
  clear HLG
  obtain ⟨⟨b1, m1, e1⟩, ⟨b2, m2, e2⟩, rws⟩ := er
  simp only [reckV, slV] at HOT HOP
  show Calls Try.prog 66 #[.agg #[.int .i64 g, .slice b1 m1 e1, .slice b2 m2 e2, .bool PL], .slice a n c] w _
  obtain ⟨wa, HW⟩ : ∃ wa, Hid (wa = w.alloc (.cells #[.int .i64 g, .slice b1 m1 e1, .slice b2 m2 e2, .bool PL] 104)) := ⟨_, rfl⟩
  have B0 : Blk wa w.heap.size 104 [.int .i64 g, .slice b1 m1 e1, .slice b2 m2 e2, .bool PL] := by rw [HW.out]; exact Blk.new w _ _
  have HB : Below w.heap.size w wa := by rw [HW.out]; exact (Below.refl _ _).alloc (Nat.le_refl _) _
  go_enter Try.func66, Try.ntmps66
  go_wp2
  rw [← HW.out]
  clear HW
  go_loopw [5, 12] (fun sv iv wr => ∃ (k m' c' : Nat) (a' : Option Addr), k ≤ n ∧ iv = .int .i64 (k : Int) ∧ sv = .slice a' m' c' ∧ (PL = true ∨ trapV S v.vars v.cells ts k = 0) ∧ Own wr wa.heap.size a' m' c' (zl (stkV S v.vars v.cells (ts.take k))) ∧ Below wa.heap.size wa wr) (fun _ iv _ => n - (intOf iv).toNat)
  case atStart => exact ⟨0, 0, 0, none, Nat.zero_le _, rfl, rfl, .inr rfl, own_nil _ _, Below.refl _ _⟩
  case round =>
    obtain ⟨k, mn, sc, sa, hk, rfl, rfl, hpk, hown, hbel⟩ := hrel
    have BR := B0.below hbel B0.lt
    have hbw := HB.trans (hbel.mono HB.size)
    by_cases hlt : k < n
    · obtain ⟨b, o, x, y, rfl, hb, hz, hin1, hin2, hc1, hc2⟩ := ht.at_ hlt
      have tm1 := (hbw.cell hb).trans hc1
      have tm2 := (hbw.cell hb).trans hc2
      have hkl : k < ts.length := by rw [HL.out]; exact hlt
      obtain ⟨d, hd, hdl⟩ := stkV_len S v.vars v.cells ts HRUN.out k (by omega)
      obtain ⟨ho, htk, _⟩ := runD_at HRUN.out hkl hd
      have hnm := HNM.out _ (tmAt_mem hkl)
      have hn0 := HN0.out _ (tmAt_mem hkl)
      have HSS := Lib.hid (stkV_succ S v.vars v.cells ts k hkl)
      have HTS : Hid (trapV S v.vars v.cells ts (k + 1) = if trapV S v.vars v.cells ts k = 0 then badV S v.vars v.cells ts k else trapV S v.vars v.cells ts k) := Lib.hid rfl
      unfold badV at HTS
      have hsl := HST.out k (by omega)
      obtain ⟨st, Hst⟩ : ∃ st, Hid (stkV S v.vars v.cells (ts.take k) = st) := ⟨_, rfl⟩
      rw [hz.out] at ho htk hnm HSS HTS hn0
      rw [Hst.out] at hown hdl HSS HTS hsl
      have hml := hown.len
      rw [zl_len] at hml
      have hmk : mn ≤ 3000 := by have := runD_le hd; have := List.length_take_le k ts; omega
      obtain ⟨q, HQ⟩ : ∃ q : Nat, Hid (takesI x = (q : Int)) := ⟨(takesI x).toNat, by
        show _ = _
        have := (tOkB_iff _).1 ho
        simp only [] at this
        omega⟩
      have hqm : q ≤ mn := by have := HQ.out; simp only [] at htk; omega
      obtain ⟨m, rfl⟩ : ∃ m, mn = m + q := ⟨mn - q, by omega⟩
      have HIN : Hid (innS st (x, y) = st.drop m) := Lib.hid (by unfold innS; simp only []; rw [HQ.out, hml, Int.toNat_natCast, Nat.add_sub_cancel])
      have HSS2 : Hid (stkV S v.vars v.cells (ts.take (k + 1)) = st.take m ++ [(valT S v.vars v.cells (x, y) (st.drop m)).1]) := Lib.hid (by rw [HSS.out, stepV, HIN.out]; simp only []; rw [HQ.out, hml, Int.toNat_natCast, Nat.add_sub_cancel])
      rw [HIN.out] at HTS
      have hoks := (tOkB_iff _).1 ho
      simp only [] at hoks
      obtain ⟨ho1, ho2, ho3, ho4⟩ := hoks
      obtain ⟨y, rfl⟩ := Int.eq_ofNat_of_zero_le ho2
      have HASK : Hid (Asked S v x y q (st.drop m)) := Lib.hid ⟨hnm, HQ.out, by rw [List.length_drop, hml]; omega, fun z hz => by have := hsl z (List.mem_of_mem_drop hz); omega, by omega⟩
      have HAND := Lib.hid (HMOD.out (x, (y : Int)) (st.drop m) hn0 ho1 (fun z hz => hsl z (List.mem_of_mem_drop hz)))
      clear hz ho htk HSS HIN hd hdl ho1 ho2 ho3 ho4 Hst hin1 hin2 hnm hn0 hsl hc1 hc2 hb
      obtain ⟨z, HZ⟩ : ∃ z, Hid (valT S v.vars v.cells (x, (y : Int)) (st.drop m) = z) := ⟨_, rfl⟩
      have hap : sa = none ∧ m + q = 0 ∧ sc = 0 ∨ ∃ g', sa = some ⟨g', 0, none⟩ := by
        rcases hown.1.2 with ⟨e, h0⟩ | ⟨g', cap, cur, e, _⟩
        · injection e with q1 q2 q3
          exact .inl ⟨q1, h0, q3⟩
        · injection e with q1 q2 q3
          exact .inr ⟨g', q1⟩
      have hcap := hown.cap
      have hsln : st.length = m + q := hml
      have HLN := Lib.hid hsln
      clear hml hsln
      obtain ⟨wb, HWb⟩ : ∃ wb, Hid (wb = wr.alloc (.cells #[.int .i64 x, .int .i64 (y : Int)] 94)) := ⟨_, rfl⟩
      have hblb : Below wa.heap.size wa wb := by rw [HWb.out]; exact hbel.alloc hbel.size _
      have TX : Blk wb wr.heap.size 94 [.int .i64 x, .int .i64 (y : Int)] := by rw [HWb.out]; exact Blk.new wr _ _
      have B1 : Blk wb w.heap.size 104 [.int .i64 g, .slice b1 m1 e1, .slice b2 m2 e2, .bool PL] := by rw [HWb.out]; exact BR.alloc _
      have hown1 : Own wb wa.heap.size sa (m + q) sc (zl st) := by rw [HWb.out]; exact hown.alloc _
      have hbw1 := HB.trans (hblb.mono HB.size)
      have u0 := TX.cell (j := 0) rfl
      clear hown hbel BR hbw
      go_upto_region 5 with fail
      rw [← HWb.out]
      clear HWb tm1 tm2
      go_wp2_with fail
      refine (takes_any _ _).mono ?_
      rintro e w1 ⟨rfl, rfl⟩
      rw [HQ.out]
      clear HQ
      have f0 := lat_cell TX.lt (TX.cell (j := 0) rfl)
      have f1 := lat_cell TX.lt (TX.cell (j := 1) rfl)
      have s0 := lat_cell B1.lt (B1.cell (j := 0) rfl)
      have s1 := lat_cell B1.lt (B1.cell (j := 1) rfl)
      have s2 := lat_cell B1.lt (B1.cell (j := 2) rfl)
      have s3 := lat_cell B1.lt (B1.cell (j := 3) rfl)
      by_cases hgo : PL = true ∨ z.2 = 0
      · have HGO : Hid (PL = true ∨ (valT S v.vars v.cells (x, (y : Int)) (st.drop m)).2 = 0) := Lib.hid (by rw [HZ.out]; exact hgo)
        rw [HZ.out] at HAND HSS2 HTS
        have hand := HAND.out
        obtain ⟨zz, HZZ⟩ : ∃ zz, Hid (zT v.vars v.cells (x, (y : Int)) (st.drop m) = zz) := ⟨_, rfl⟩
        rw [HZZ.out] at hand
        have HPK : Hid (PL = true ∨ trapV S v.vars v.cells ts (k + 1) = 0) := Lib.hid (by
          rw [HTS.out]
          rcases hgo with h | h
          · exact .inl h
          · rcases hpk with h2 | h2
            · exact .inl h2
            · rw [if_pos h2]; exact .inr h)
        obtain ⟨xv, bad⟩ := z
        simp only [] at hand HSS2
        clear hgo HTS HAND
        go_upto_region 6 with fail
        go_cut [9] (fun nv wx => nv = .int .i64 (xv : Int) ∧ Below wb.heap.size wb wx)
        case first =>
          by_cases hcc : m = sc
          · subst hcc
            obtain rfl : q = 0 := by omega
            have HC1 : Hid (∀ p' : Lat wb, Calls Try.prog 117 #[.agg #[.int .i64 g, .slice b1 m1 e1, .slice b2 m2 e2, .bool PL], .agg #[.int .i64 x, .int .i64 (y : Int)], .slice sa 0 0] p'.wd fun e w'' => e = .returned (.int .i64 zz) ∧ Below p'.wd.heap.size p'.wd w'') := Lib.hid (fun p' => by
              rw [← HZZ.out]
              refine HOT.out x y sa 0 0 (st.drop m) p'.wd (hbw1.trans (p'.ok.mono hbw1.size)) HASK.out ?_ HGO.out
              rw [List.drop_eq_nil_of_le (by have := HLN.out; omega)]
              exact ⟨rfl, by omega, fun z hz => by simp [zl] at hz, fun h => absurd h (by omega)⟩)
            clear HGO HASK u0
            go_wp2_with fail
            refine wp_region_lat (by kernel_rfl) (by kernel_rfl) ?_
            repeat (go_big_quiet_step ((go_at_call 117; exact lat_calls (HC1.out _))))
            refine wpQuiet_nil ?_
            intro _ hw'
            obtain ⟨⟨wq, hwq⟩, hw''⟩ := hw'
            subst hw''
            go_wp2
            go_meet
            exact ⟨rfl, hwq⟩
          · obtain ⟨g', rfl⟩ : ∃ g', sa = some ⟨g', 0, none⟩ := by
              rcases hap with ⟨h1, h2, h3⟩ | h1
              · omega
              · exact h1
            have hid := ints_drop hown1.ints
            rw [show (zl st).drop m = zl (st.drop m) from (List.map_drop).symm, Nat.zero_add] at hid
            have HC1 : Hid (∀ p' : Lat wb, Calls Try.prog 117 #[.agg #[.int .i64 g, .slice b1 m1 e1, .slice b2 m2 e2, .bool PL], .agg #[.int .i64 x, .int .i64 (y : Int)], .slice (some ⟨g', m, none⟩) q (sc - m)] p'.wd fun e w'' => e = .returned (.int .i64 zz) ∧ Below p'.wd.heap.size p'.wd w'') := Lib.hid (fun p' => by
              rw [← HZZ.out]
              exact HOT.out x y _ q _ (st.drop m) p'.wd (hbw1.trans (p'.ok.mono hbw1.size)) HASK.out (hid.below p'.ok) HGO.out)
            clear HGO HASK u0 hid
            go_wp2_with fail
            refine wp_region_lat (by kernel_rfl) (by kernel_rfl) ?_
            repeat (go_big_quiet_step ((go_at_call 117; exact lat_calls (HC1.out _))))
            refine wpQuiet_nil ?_
            intro _ hw'
            obtain ⟨⟨wq, hwq⟩, hw''⟩ := hw'
            subst hw''
            go_wp2
            go_meet
            exact ⟨rfl, hwq⟩
        case rest =>
          obtain ⟨rfl, hbx⟩ := hcut
          have hown2 := (hown1.cut (k := m) (by omega)).below hbx
          rw [show (zl st).take m = zl (st.take m) from (List.map_take).symm] at hown2
          have hbel2 := hblb.trans (hbx.mono hblb.size)
          have hxl : xv < S := HST.out (k + 1) (by omega) xv (by rw [HSS2.out]; simp)
          clear hown1 hblb hbx hbw1 B1 TX f0 f1 s0 s1 s2 s3 u0 hand HGO HASK hap
          have hms : m < 1048576 := by omega
          go_wp2_with (at_builtin; refine wpList_push _ rfl _ _ rfl wa.heap.size _ _ _ (zl (st.take m)) rfl (hown2.alloc _) wc.heap.size (xv : Int) rfl (by simp) (in64_nat (by omega)) hms (by simp; exact Nat.le_succ_of_le hbel2.size) ?_)
          intro a8 c8 w8 hown8 hg8
          have hb8 := below_push (hbel2.alloc hbel2.size _) (hown2.alloc _) (by simp; exact Nat.le_succ_of_le hbel2.size) hg8
          have HO8 : Hid (Own w8 wa.heap.size a8 (m + 1) c8 (zl (stkV S v.vars v.cells (ts.take (k + 1))))) := Lib.hid (by rw [HSS2.out]; unfold zl; rw [List.map_append]; exact hown8)
          clear hown8 hg8 hown2
          go_wp2
          go_roundw
          case rel => exact ⟨k + 1, m + 1, c8, a8, by omega, by go_num, rfl, HPK.out, HO8.out, hb8⟩
          case measure => simp [intOf]; omega
      · have hPL : PL = false := by
          cases PL with
          | true => exact absurd (.inl rfl) hgo
          | false => rfl
        subst hPL
        have hz2 : z.2 ≠ 0 := fun h => hgo (.inr h)
        have hpk0 : trapV S v.vars v.cells ts k = 0 := by
          rcases hpk with h | h
          · exact absurd h (by simp)
          · exact h
        have HTR : Hid (trapV S v.vars v.cells ts n = z.2) := Lib.hid (by
          have e : trapV S v.vars v.cells ts (k + 1) = z.2 := by rw [HTS.out, if_pos hpk0, HZ.out]
          rw [trapV_on (k := k + 1) (by rw [e]; exact hz2) n (by omega), e])
        have hd : Below wb.heap.size wb wb.drew := ⟨rfl, rfl, rfl, Nat.le_refl _, fun _ _ => rfl⟩
        have HBD := Lib.hid (hbw1.trans (hd.mono hbw1.size))
        have f0 := TX.cell (j := 0) rfl
        have f1 := TX.cell (j := 1) rfl
        have s0 := B1.cell (j := 0) rfl
        have s1 := B1.cell (j := 1) rfl
        have s2 := B1.cell (j := 2) rfl
        have s3 := B1.cell (j := 3) rfl
        clear hgo hpk hpk0 HAND HSS2 HTS
        by_cases hcc : m = sc
        · subst hcc
          obtain rfl : q = 0 := by omega
          have HC1 : Hid (Calls Try.prog 117 #[.agg #[.int .i64 g, .slice b1 m1 e1, .slice b2 m2 e2, .bool false], .agg #[.int .i64 x, .int .i64 (y : Int)], .slice sa 0 0] wb.drew fun e w'' => e = .panicked (trapC z.2) ∧ Below wb.drew.heap.size wb.drew w'') := Lib.hid (by
            rw [← HZ.out]
            refine HOP.out x y sa 0 0 (st.drop m) wb.drew HBD.out HASK.out ?_ rfl (by rw [HZ.out]; exact hz2)
            rw [List.drop_eq_nil_of_le (by have := HLN.out; omega)]
            exact ⟨rfl, by omega, fun z hz => by simp [zl] at hz, fun h => absurd h (by omega)⟩)
          clear HASK HOT HOP HZ u0
          go_wp2_with fail
          go_region_with ((go_at_call 117; refine (HC1.out).mono ?_; rintro e w1 ⟨rfl, hb1⟩; refine panic_end (P := Try.prog) (w := w1) ⟨rfl, .inr ⟨⟨rfl, by rw [HTR.out]; exact hz2⟩, by rw [HTR.out]⟩, HBD.out.trans (hb1.mono HBD.out.size)⟩ ?_))
          all_goals exact True.intro
        · obtain ⟨g', rfl⟩ : ∃ g', sa = some ⟨g', 0, none⟩ := by
            rcases hap with ⟨h1, h2, h3⟩ | h1
            · omega
            · exact h1
          have hid := ints_drop hown1.ints
          rw [show (zl st).drop m = zl (st.drop m) from (List.map_drop).symm, Nat.zero_add] at hid
          have HC1 : Hid (Calls Try.prog 117 #[.agg #[.int .i64 g, .slice b1 m1 e1, .slice b2 m2 e2, .bool false], .agg #[.int .i64 x, .int .i64 (y : Int)], .slice (some ⟨g', m, none⟩) q (sc - m)] wb.drew fun e w'' => e = .panicked (trapC z.2) ∧ Below wb.drew.heap.size wb.drew w'') := Lib.hid (by
            rw [← HZ.out]
            exact HOP.out x y _ q _ (st.drop m) wb.drew HBD.out HASK.out (hid.below hd) rfl (by rw [HZ.out]; exact hz2))
          clear HASK HOT HOP HZ hid u0
          go_wp2_with fail
          go_region_with ((go_at_call 117; refine (HC1.out).mono ?_; rintro e w1 ⟨rfl, hb1⟩; refine panic_end (P := Try.prog) (w := w1) ⟨rfl, .inr ⟨⟨rfl, by rw [HTR.out]; exact hz2⟩, by rw [HTR.out]⟩, HBD.out.trans (hb1.mono HBD.out.size)⟩ ?_))
          all_goals exact True.intro
    · obtain rfl : n = k := by omega
      have hts : ts.take n = ts := List.take_of_length_le (by rw [HL.out]; exact Nat.le_refl _)
      rw [hts] at hown
      obtain ⟨d, hd, hdl⟩ := stkV_len S v.vars v.cells ts HRUN.out n (by rw [HL.out]; exact Nat.le_refl _)
      rw [hts, HRUN.out] at hd
      rw [hts] at hdl
      injection hd with hd
      have hml := hown.len
      rw [zl_len] at hml
      obtain rfl : mn = 1 := by omega
      obtain ⟨g5, o5, z0, rfl, hg5, hz0, hc5⟩ := nats_at hown.ints (k := 0) (by omega)
      rw [Nat.add_zero] at hc5
      have HPK := Lib.hid hpk
      clear hd hdl hml hown hpk
      go_wp2
      go_ret
      rw [hz0.out]
      exact ⟨.inl ⟨HPK.out, rfl⟩, hbw⟩
end Go.Proofs.Ytmooecbdpfhnlaa
