/- Joined texts of this proof (SpecVal2, SpecVal3, RunMath, RunMem, Outcomes, CountMath), in build order. -/
import Derived.Test.YtmooecbdpfhnlaaGreatK15
import Derived.Test.YtmooecbdpfhnlaaGreatK14
import Derived.Test.YtmooecbdpfhnlaaGreatK2
import Derived.Deep.DeepCutAuto
import Derived.Deep.CutBlock
import Derived.Test.YtmooecbdpfhnlaaGreatK10
import Derived.Test.YtmooecbdpfhnlaaGreatK1
/- The contract of the model's l5Value: an expression's value and its first trap. -/
namespace Go.Proofs.YtmooecbdpfhnlaaGreat
open Go.RowKit

def zl (st : List Nat) : List Int := st.map Int.ofNat
theorem zl_len (st : List Nat) : (zl st).length = st.length := by simp [zl]
theorem zl_getD (st : List Nat) (i : Nat) : (zl st).getD i 0 = ((st.getD i 0 : Nat) : Int) := by
  unfold zl
  rw [List.getD_eq_getElem?_getD, List.getD_eq_getElem?_getD, List.getElem?_map]
  cases st[i]? <;> rfl
theorem nats_at {w : World} {a : Option Addr} {n : Nat} {st : List Nat} (h : Ints w a n (zl st)) {k : Nat} (hk : k < n) : ∃ b o, ∃ z : Nat, a = some ⟨b, o, none⟩ ∧ b < w.heap.size ∧ Hid (st.getD k 0 = z) ∧ w.cell? ⟨b, o + k, none⟩ = some (.int .i64 (z : Int)) := by
  obtain ⟨b, o, z, e, hb, hz, _, hc⟩ := h.at_ hk
  exact ⟨b, o, st.getD k 0, e, hb, rfl, by rw [hc, hz.out, zl_getD]⟩
theorem stk_lt {W : Nat} (hW : 1 ≤ W) {V : List Int} {C : List (List Int)} (he : InEnv (2 ^ W) V C) {ts : List Tm} (ht : ∀ t ∈ ts, t.1 = 0 → t.2 < ((2 ^ W : Nat) : Int)) : ∀ k, k ≤ ts.length → ∀ x ∈ stkV (2 ^ W) V C (ts.take k), x < 2 ^ W := by
  intro k
  induction k with
  | zero => intro _ x hx; simp [stkV] at hx
  | succ k ih =>
    intro hk
    rw [stkV_succ _ _ _ _ _ (by omega)]
    exact stepV_lt hW he (ht _ (tmAt_mem (by omega))) (ih (by omega))
theorem ints_drop {w : World} {g o m q : Nat} {zs : List Int} (h : Ints w (some ⟨g, o, none⟩) (m + q) zs) : Ints w (some ⟨g, o + m, none⟩) q (zs.drop m) := by
  obtain ⟨hl, hn, hin, hc⟩ := h
  refine ⟨by rw [List.length_drop]; omega, by omega, fun z hz => hin z (List.mem_of_mem_drop hz), fun hp => ?_⟩
  obtain ⟨b, o', e, hb, hcell⟩ := hc (by omega)
  injection e with e
  injection e with e1 e2
  subst e1 e2
  refine ⟨g, o + m, rfl, hb, fun i hi => ?_⟩
  rw [Nat.add_assoc, hcell (m + i) (by omega)]
  simp [List.getD_eq_getElem?_getD, List.getElem?_drop]
theorem ints_alloc {w : World} {a : Option Addr} {n : Nat} {zs : List Int} (h : Ints w a n zs) (o : Obj) : Ints (w.alloc o) a n zs := h.below ((Below.refl _ _).alloc (Nat.le_refl _) _)
theorem in64_nat {x : Nat} (h : x < 256) : In64 (x : Int) := ⟨by omega, by omega⟩

/-- What a right expression, over an environment, allows. -/
structure Reck (S : Nat) (v : Envr) (ts : List Tm) : Prop where
  run : runD 0 ts = some 1
  long : ts.length ≤ 3000
  named : ∀ t ∈ ts, nameOk S v.vars.length v.cells.length t = true
  env : InEnv S v.vars v.cells
set_option maxRecDepth 20000 in
set_option maxHeartbeats 6400000 in
theorem l5Value_any (r : PRow) (W : Nat) (er : ERow) (v : Envr) (a : Option Addr) (n c : Nat) (ts : List Tm) (w : World) (hW : r.width = (W : Int)) (hW1 : 1 ≤ W) (hW8 : W ≤ 8) (he : EnvAt w er v) (ht : Terms w a n ts) (hk : Reck (2 ^ W) v ts) :
    Calls Tryz.prog 144 #[progV r, envV er, .slice a n c] w fun e w' => e = .returned (.tuple #[.int .i64 (((stkV (2 ^ W) v.vars v.cells ts).getD 0 0 : Nat) : Int), .int .i64 (trapV (2 ^ W) v.vars v.cells ts n)]) ∧ Below w.heap.size w w' := by
  have HS0 : Hid (∀ w' : World, Calls Tryz.prog 169 #[progV r] w' fun e w'' => e = .returned (.int .i64 ((2 ^ W : Nat) : Int)) ∧ Below w'.heap.size w' w'') := Lib.hid (fun w' => l3Size_any r W w' hW hW8)
  have HOP0 : Hid (∀ (op : Int) (x y : Nat) (w' : World), x < 2 ^ W → y < 2 ^ W → 3 ≤ op → op ≤ 16 → Calls Tryz.prog 175 #[.int .i64 ((2 ^ W : Nat) : Int), .int .i64 op, .int .i64 (x : Int), .int .i64 (y : Int)] w' fun e w'' => e = .returned (.int .i64 (opN (2 ^ W) op x y : Int)) ∧ Below w'.heap.size w' w'') := Lib.hid (fun op x y w' h1 h2 h3 h4 => (l5Op_any W x y op w' hW8 h1 h2 h3 h4).mono fun e w'' h => ⟨h.1, h.2 ▸ Below.refl _ _⟩)
  have HST := Lib.hid (stk_lt hW1 hk.env (ts := ts) (fun t hm h0 => by
    have := hk.named t hm
    unfold nameOk at this
    rw [if_pos h0] at this
    exact of_decide_eq_true this))
  have hS : 2 ^ W ≤ 2 ^ 8 := Nat.pow_le_pow_right (by omega) hW8
  have hS0 : 0 < 2 ^ W := Nat.pow_pos (by omega)
  have HK := Lib.hid hk
  obtain ⟨S, HS⟩ : ∃ S : Nat, Hid (2 ^ W = S) := ⟨_, Lib.hid rfl⟩
  simp only [HS.out] at hS hS0 HS0 HOP0 HST HK ⊢
  clear HS hW hW1 hW8 hk
  have HL := Lib.hid ht.1
  have hbd : n ≤ 3000 := by rw [← HL.out]; exact HK.out.long
  obtain ⟨wd, ⟨a1, n1, d1⟩, ⟨a2, n2, d2⟩, tp, ⟨a3, n3, d3⟩, ⟨a4, n4, d4⟩, rows⟩ := r
  obtain ⟨⟨b1, m1, e1⟩, ⟨b2, m2, e2⟩, rws⟩ := er
  have HEV := Lib.hid he.vars
  have HEC := Lib.hid he.cells
  simp only [] at HEV HEC
  have HLV := Lib.hid HEV.out.1
  have HLC := Lib.hid HEC.out.2.1
  show Calls Tryz.prog 144 #[.agg #[.int .i64 wd, .slice a1 n1 d1, .slice a2 n2 d2, .int .i64 tp, .slice a3 n3 d3, .slice a4 n4 d4], .agg #[.slice b1 m1 e1, .slice b2 m2 e2], .slice a n c] w _
  have HS1 : Hid (∀ w' : World, Calls Tryz.prog 169 #[.agg #[.int .i64 wd, .slice a1 n1 d1, .slice a2 n2 d2, .int .i64 tp, .slice a3 n3 d3, .slice a4 n4 d4]] w' fun e w'' => e = .returned (.int .i64 (S : Int)) ∧ Below w'.heap.size w' w'') := HS0
  clear HS0 he
  obtain ⟨V, HV⟩ : ∃ V, Hid (v.vars = V) := ⟨_, rfl⟩
  obtain ⟨C, HC⟩ : ∃ C, Hid (v.cells = C) := ⟨_, rfl⟩
  have HRUN := Lib.hid HK.out.run
  have HNM := Lib.hid HK.out.named
  have HIE := Lib.hid HK.out.env
  simp only [HV.out, HC.out] at HEV HEC HLV HLC HST HNM HIE ⊢
  simp only [HLV.out, HLC.out] at HNM
  clear HK HV HC
  obtain ⟨wa, HW⟩ : ∃ wa, Hid (wa = ((w.alloc (.cells #[.int .i64 wd, .slice a1 n1 d1, .slice a2 n2 d2, .int .i64 tp, .slice a3 n3 d3, .slice a4 n4 d4] 31)).alloc (.cells #[.slice b1 m1 e1, .slice b2 m2 e2] 90))) := ⟨_, rfl⟩
  have BX : VBox w wa [.int .i64 wd, .slice a1 n1 d1, .slice a2 n2 d2, .int .i64 tp, .slice a3 n3 d3, .slice a4 n4 d4] [.slice b1 m1 e1, .slice b2 m2 e2] := by rw [HW.out]; exact vbox_new w _ _
  obtain ⟨we, HWE⟩ : ∃ we, Hid (we = wa.alloc (.cells #[] 2)) := ⟨_, rfl⟩
  have hbe : Below wa.heap.size wa we := by rw [HWE.out]; exact (Below.refl _ _).alloc (Nat.le_refl _) _
  have hoe : Own we wa.heap.size (some ⟨wa.heap.size, 0, none⟩) 0 0 (zl []) := by rw [HWE.out]; exact own_empty wa _ (Nat.le_refl _)
  have B1 := BX.below hbe
  have g0 := B1.prg.cell (j := 0) rfl
  have g1 := B1.prg.cell (j := 1) rfl
  have g2 := B1.prg.cell (j := 2) rfl
  have g3 := B1.prg.cell (j := 3) rfl
  have g4 := B1.prg.cell (j := 4) rfl
  have g5 := B1.prg.cell (j := 5) rfl
  go_enter Tryz.func144, Tryz.ntmps144
  go_wp2_with (fail)
  rw [← HW.out, ← HWE.out]
  refine (HS1.out _).mono ?_
  rintro e wb ⟨rfl, hbb⟩
  have hoe := hoe.below hbb
  have hb0 := hbe.trans (hbb.mono hbe.size)
  have hsz : wa.heap.size = w.heap.size + 2 := by rw [HW.out]; simp
  have HSZ := Lib.hid hsz
  clear g0 g1 g2 g3 g4 g5 B1 hbe hbb HWE HW HS1 hsz
  have BB := BX.below hb0
  have HB0 := Lib.hid hb0
  clear hb0
  go_wp2
  go_loopw [8, 9, 11] (fun sv tv iv wr => ∃ (k m' c' : Nat) (a' : Option Addr), k ≤ n ∧ iv = .int .i64 (k : Int) ∧ sv = .slice a' m' c' ∧ tv = .int .i64 (trapV S V C ts k) ∧ Own wr wa.heap.size a' m' c' (zl (stkV S V C (ts.take k))) ∧ Below wa.heap.size wa wr) (fun _ _ iv _ => n - (intOf iv).toNat)
  case atStart => exact ⟨0, 0, 0, some ⟨w.heap.size + 1 + 1, 0, none⟩, Nat.zero_le _, rfl, rfl, rfl, by rw [show w.heap.size + 1 + 1 = wa.heap.size from HSZ.out.symm]; exact hoe, HB0.out⟩
  case round =>
    clear hoe BB HB0
    obtain ⟨k, mn, sc, sa, hk, rfl, rfl, rfl, hown, hbel⟩ := hrel
    have BR := BX.below hbel
    by_cases hlt : k < n
    · obtain ⟨b, o, x, y, rfl, hb, hz, hin1, hin2, hc1, hc2⟩ := ht.at_ hlt
      have HTM : Hid (∀ w', Below w.heap.size w w' → w'.cell? ⟨b, o + k * 2, none⟩ = some (.int .i64 x) ∧ w'.cell? ⟨b, o + k * 2 + 1, none⟩ = some (.int .i64 y) ∧ b < w'.heap.size) := Lib.hid (fun w' hbw => ⟨(hbw.cell hb).trans hc1, (hbw.cell hb).trans hc2, Nat.lt_of_lt_of_le hb hbw.size⟩)
      clear hb hc1 hc2
      have hkl : k < ts.length := by rw [HL.out]; exact hlt
      obtain ⟨d, hd, hdl⟩ := stkV_len S V C ts HRUN.out k (by omega)
      obtain ⟨ho, htk, _⟩ := runD_at HRUN.out hkl hd
      have hnm := HNM.out _ (tmAt_mem hkl)
      have HSS := Lib.hid (stkV_succ S V C ts k hkl)
      have HTS : Hid (trapV S V C ts (k + 1) = if trapV S V C ts k = 0 then badV S V C ts k else trapV S V C ts k) := Lib.hid rfl
      unfold badV at HTS
      have hsl := HST.out k (by omega)
      obtain ⟨st, Hst⟩ : ∃ st, Hid (stkV S V C (ts.take k) = st) := ⟨_, rfl⟩
      rw [hz.out] at ho htk hnm HSS HTS
      rw [Hst.out] at hown hdl HSS HTS hsl
      have hml := hown.len
      rw [zl_len] at hml
      have hmk : mn ≤ 3000 := by have := runD_le hd; have := List.length_take_le k ts; omega
      obtain ⟨q, HQ⟩ : ∃ q : Nat, Hid (takesI x = (q : Int)) := ⟨(takesI x).toNat, by
        show _ = _
        have := (tOkB_iff _).1 ho
        simp only [] at this
        omega⟩
      have hqm : q ≤ mn := by have := HQ.out; simp only [] at htk; omega
      obtain ⟨m, rfl⟩ : ∃ m, mn = m + q := ⟨mn - q, by omega⟩
      have HIN : Hid (innS st (x, y) = st.drop m) := Lib.hid (by unfold innS; simp only []; rw [HQ.out, hml, Int.toNat_natCast, Nat.add_sub_cancel])
      have HSS2 : Hid (stkV S V C (ts.take (k + 1)) = st.take m ++ [(valT S V C (x, y) (st.drop m)).1]) := Lib.hid (by rw [HSS.out, stepV, HIN.out]; simp only []; rw [HQ.out, hml, Int.toNat_natCast, Nat.add_sub_cancel])
      rw [HIN.out] at HTS
      obtain ⟨tk, Htk⟩ : ∃ tk, Hid (trapV S V C ts k = tk) := ⟨_, rfl⟩
      rw [Htk.out] at HTS ⊢
      have hq3 : q ≤ 3 := by have := HQ.out; have := takesI_range x; omega
      have hm3 : m + q ≤ 1048576 := hown.2.1
      have hoks := (tOkB_iff _).1 ho
      simp only [] at hoks
      obtain ⟨ho1, ho2, ho3, ho4⟩ := hoks
      obtain ⟨y, rfl⟩ := Int.eq_ofNat_of_zero_le ho2
      have HXR : Hid ((x = 0 ∨ x = 1) ∧ q = 0 ∨ x = 2 ∧ q = 1 ∨ (x = 3 ∨ x = 4) ∧ q = 1 ∨ x = 17 ∧ q = 3 ∨ (5 ≤ x ∧ x ≤ 16) ∧ q = 2) := Lib.hid (by
        have e := HQ.out
        unfold takesI at e ho1
        repeat' split at e
        all_goals (repeat' split at ho1)
        all_goals omega)
      clear hz ho htk HSS HIN hd hdl ho1 ho2 ho4 Hst Htk hin1 hin2
      have HLN := Lib.hid hml
      clear hml
      have ha : ∃ g, sa = some ⟨g, 0, none⟩ ∨ (sa = none ∧ m + q = 0) := by
        rcases hown.1.2 with ⟨e, h0⟩ | ⟨g, cap, cur, e, _⟩
        · injection e with e1 e2 e3
          exact ⟨0, .inr ⟨e1, h0⟩⟩
        · injection e with e1 e2 e3
          exact ⟨g, .inl e1⟩
      have hcap := hown.cap
      have tm1 := (HTM.out _ BR.bel).1
      go_wp2_with fail
      refine (specTakes_any _ _).mono ?_
      rintro e w1 ⟨rfl, hw1⟩
      rw [HQ.out]
      have hown := hown.below hw1
      have hbel := hbel.trans (hw1.mono hbel.size)
      have BR := BR.below hw1
      clear hw1 HQ tm1
      go_upto_region 8 with fail
      go_cut [13] (fun iv wx => ∃ (a5 : Option Addr) (c5 : Nat), iv = .slice a5 q c5 ∧ Own wx wa.heap.size sa m sc (zl (st.take m)) ∧ Ints wx a5 q (zl (st.drop m)) ∧ Below wa.heap.size wa wx)
      case first =>
        have hoc := hown.cut (k := m) (by omega)
        rw [show (zl st).take m = zl (st.take m) from (List.map_take).symm] at hoc
        by_cases hcc : m = sc
        · subst hcc
          obtain rfl : q = 0 := by omega
          have hdr : st.drop m = [] := List.drop_eq_nil_of_le (by have := HLN.out; omega)
          go_wp2_with (at_builtin; refine wpList_concat _ rfl _ _ rfl wa.heap.size _ _ _ [] rfl (own_empty _ _ hbel.size) _ 0 _ [] rfl ⟨rfl, by omega, fun z hz => by simp at hz, fun h => absurd h (by omega)⟩ (by omega) (by simp; exact Nat.le_succ_of_le hbel.size) ?_)
          intro a5 c5 w5 hown5 hg5
          have hbw := Lib.hid (below_push ((Below.refl w1.heap.size w1).alloc (Nat.le_refl _) _) (own_empty w1 _ (Nat.le_refl _)) (by simp) hg5)
          have HO5 := Lib.hid hown5
          clear hg5 hown5
          go_wp2
          go_meet
          exact ⟨a5, c5, rfl, hoc.below hbw.out, by rw [hdr]; exact HO5.out.ints, hbel.trans (hbw.out.mono hbel.size)⟩
        · obtain ⟨g, rfl⟩ : ∃ g, sa = some ⟨g, 0, none⟩ := by
            obtain ⟨g, hg | ⟨hn0, h0⟩⟩ := ha
            · exact ⟨g, hg⟩
            · exfalso
              rcases hown.1.2 with ⟨e, _⟩ | ⟨g', cap, cur, e, _⟩
              · injection e with e1 e2 e3
                omega
              · injection e with e1 e2 e3
                rw [hn0] at e1
                cases e1
          have hid := ints_drop hown.ints
          rw [show (zl st).drop m = zl (st.drop m) from (List.map_drop).symm] at hid
          go_wp2_with (at_builtin; refine wpList_concat _ rfl _ _ rfl wa.heap.size _ _ _ [] rfl (own_empty _ _ hbel.size) _ q _ (zl (st.drop m)) rfl (ints_alloc (by simpa using hid) _) (by omega) (by simp; exact Nat.le_succ_of_le hbel.size) ?_)
          intro a5 c5 w5 hown5 hg5
          have hbw := Lib.hid (below_push ((Below.refl w1.heap.size w1).alloc (Nat.le_refl _) _) (own_empty w1 _ (Nat.le_refl _)) (by simp) hg5)
          have HO5 := Lib.hid hown5
          clear hg5 hown5 hid
          go_wp2
          go_meet
          exact ⟨a5, c5, rfl, hoc.below hbw.out, by have := HO5.out.ints; simpa using this, hbel.trans (hbw.out.mono hbel.size)⟩
      case rest =>
        obtain ⟨a5, c5, rfl, hown5, hin5, hbel5⟩ := hcut
        clear hown hbel BR ha
        have BR := BX.below hbel5
        have hmc : m ≤ sc := by omega
        have tm1 := (HTM.out _ BR.bel).1
        go_upto_block 2 with fail
        go_cut [14, 15] (fun xv bv wx => ∃ (z : Nat) (bad : Int), xv = .int .i64 (z : Int) ∧ bv = .int .i64 bad ∧ Hid (valT S V C (x, (y : Int)) (st.drop m) = (z, bad)) ∧ Below wc.heap.size wc wx)
        case first =>
          have tm2 := (HTM.out _ BR.bel).2.1
          have tmb := (HTM.out _ BR.bel).2.2
          have f1 := lat_cell tmb tm1
          have f2 := lat_cell tmb tm2
          have k0 := lat_cell BR.env.lt (BR.env.cell (j := 0) rfl)
          have k1 := lat_cell BR.env.lt (BR.env.cell (j := 1) rfl)
          have hnmv : nameOk S m1 m2 (x, (y : Int)) = true := hnm
          have hxr := HXR.out
          clear hnm HXR HTM
          rcases hxr with ⟨h01, rfl⟩ | ⟨rfl, rfl⟩ | ⟨h34, rfl⟩ | ⟨rfl, rfl⟩ | ⟨h516, rfl⟩
          · rcases h01 with rfl | rfl
            · clear hnmv f1 f2 k0 k1
              go_wp2
              go_meet
              exact ⟨y, 0, rfl, rfl, Lib.hid (by simp [valT]), Below.refl _ _⟩
            · have hyl : y < m1 := by simpa [nameOk] using hnmv
              obtain ⟨b', o', z, rfl, hb', hz, hinz, hcz⟩ := (HEV.out.below BR.bel).at_ hyl
              have f3 := lat_cell hb' hcz
              have hzr := getD_in hS0 HIE.out.1 y
              rw [← hz.out] at hzr
              have HZ := Lib.hid hz.out
              obtain ⟨z, rfl⟩ := Int.eq_ofNat_of_zero_le hzr.1
              have HVT : Hid (valT S V C (1, (y : Int)) (st.drop m) = (z, 0)) := Lib.hid (by simp [valT]; rw [List.getD_eq_getElem?_getD] at HZ; have := HZ.out; omega)
              clear hzr hz HZ hinz hnmv
              go_wp2
              refine wp_region_lat (by kernel_rfl) (by kernel_rfl) ?_
              repeat (go_big_quiet_step (fail))
              refine wpQuiet_nil ?_
              intro _ hw'
              obtain ⟨⟨wq, hwq⟩, hw''⟩ := hw'
              subst hw''
              go_wp2
              go_meet
              exact ⟨z, 0, rfl, rfl, HVT, hwq⟩
          · have hyl : y < m2 := by simpa [nameOk] using hnmv
            obtain ⟨b', o', a6, n6, c6, rfl, hb', hy', hc6, hI6⟩ := (HEC.out.below BR.bel).at_ hyl
            obtain ⟨g5, o5, z0, rfl, hg5, hz0, hc5⟩ := nats_at hin5 (k := 0) (by omega)
            have f3 := lat_cell hb' hc6
            have f4 := lat_cell hg5 hc5
            rw [Nat.add_zero] at f4
            have hl6 := hI6.1
            have HL6 := Lib.hid hl6
            have hn6 := hI6.2.1
            by_cases hin : z0 < n6
            · obtain ⟨b7, o7, z, rfl, hb7, hz7, _, hc7⟩ := hI6.at_ hin
              have f5 := lat_cell hb7 hc7
              have hzr := getD_in hS0 (getD_cells HIE.out.2 y) z0
              have HZ : Hid (z = (C.getD y []).getD z0 0) := Lib.hid hz7.out
              rw [← HZ.out] at hzr
              obtain ⟨z, rfl⟩ := Int.eq_ofNat_of_zero_le hzr.1
              have HVT : Hid (valT S V C (2, (y : Int)) (st.drop m) = (z, 0)) := Lib.hid (by
                have e1 := HZ.out
                have e2 : (C.getD y []).length = n6 := HL6.out
                unfold valT
                simp only [Int.toNat_natCast]
                rw [if_neg (by decide), if_neg (by decide), if_pos (by trivial), hz0.out, if_pos (by rw [e2]; exact hin), ← e1]
                rfl)
              have hd : decide ((z0 : Int) < (n6 : Int)) = true := by simp; omega
              have HF := Lib.hid (And.intro (And.intro tmb tm2) (And.intro (And.intro hb' hc6) (And.intro (And.intro hg5 hc5) (And.intro hb7 hc7))))
              clear hzr hz7 HZ hnmv hl6 hI6 hc6 hc5 hc7
              go_wp2
              refine wp_region_lat (by kernel_rfl) (by kernel_rfl) ?_
              repeat (go_big_quiet_step (fail))
              refine wpQuiet_nil ?_
              intro _ hw'
              obtain ⟨⟨wq, hwq⟩, hw''⟩ := hw'
              subst hw''
              have BR3 := BR.below hwq
              clear f1 f2 f3 f4 f5 k0 k1
              have f2 := lat_cell (Nat.lt_of_lt_of_le HF.out.1.1 hwq.size) ((hwq.cell HF.out.1.1).trans HF.out.1.2)
              have f3 := lat_cell (Nat.lt_of_lt_of_le HF.out.2.1.1 hwq.size) ((hwq.cell HF.out.2.1.1).trans HF.out.2.1.2)
              have f4 := lat_cell (Nat.lt_of_lt_of_le HF.out.2.2.1.1 hwq.size) ((hwq.cell HF.out.2.2.1.1).trans HF.out.2.2.1.2)
              rw [Nat.add_zero] at f4
              have f5 := lat_cell (Nat.lt_of_lt_of_le HF.out.2.2.2.1 hwq.size) ((hwq.cell HF.out.2.2.2.1).trans HF.out.2.2.2.2)
              have k1 := lat_cell BR3.env.lt (BR3.env.cell (j := 1) rfl)
              go_wp2
              refine wp_region_lat (by kernel_rfl) (by kernel_rfl) ?_
              repeat (go_big_quiet_step (fail))
              refine wpQuiet_nil ?_
              intro _ hw'
              obtain ⟨⟨wq3, hwq2⟩, hw''⟩ := hw'
              subst hw''
              go_wp2
              go_meet
              exact ⟨z, 0, rfl, rfl, HVT, hwq.trans (hwq2.mono hwq.size)⟩
            · have HVT : Hid (valT S V C (2, (y : Int)) (st.drop m) = (0, 2)) := Lib.hid (by
                have e2 : (C.getD y []).length = n6 := HL6.out
                unfold valT
                simp only [Int.toNat_natCast]
                rw [if_neg (by decide), if_neg (by decide), if_pos (by trivial), hz0.out, if_neg (by rw [e2]; exact hin)])
              have hd : decide ((z0 : Int) < (n6 : Int)) = false := by simp; omega
              clear hnmv hl6 hI6 hc6 hc5
              go_wp2
              refine wp_region_lat (by kernel_rfl) (by kernel_rfl) ?_
              repeat (go_big_quiet_step (fail))
              refine wpQuiet_nil ?_
              intro _ hw'
              obtain ⟨⟨wq, hwq⟩, hw''⟩ := hw'
              subst hw''
              go_wp2
              go_meet
              exact ⟨0, 2, rfl, rfl, HVT, hwq⟩
          · obtain ⟨g5, o5, z0, rfl, hg5, hz0, hc5⟩ := nats_at hin5 (k := 0) (by omega)
            have f4 := lat_cell hg5 hc5
            rw [Nat.add_zero] at f4
            have hzl : z0 < S := by rw [← hz0.out]; exact getD_nat hS0 (fun x hx => hsl x (List.mem_of_mem_drop hx)) 0
            have HVT : Hid (valT S V C (x, (y : Int)) (st.drop m) = (opN S x z0 0, 0)) := Lib.hid (by
              unfold valT
              simp only []
              rw [if_neg (by omega), if_neg (by omega), if_neg (by omega), if_neg (by omega), if_pos h34, hz0.out])
            have HOP : Hid (∀ p' : Lat wc, Calls Tryz.prog 175 #[.int .i64 (S : Int), .int .i64 x, .int .i64 (z0 : Int), .int .i64 0] p'.wd fun e w'' => e = .returned (.int .i64 (opN S x z0 0 : Int)) ∧ Below p'.wd.heap.size p'.wd w'') := Lib.hid (fun p' => HOP0.out x z0 0 _ hzl hS0 (by omega) (by omega))
            clear hnmv hc5
            generalize opN S x z0 0 = R at HVT HOP
            rcases h34 with rfl | rfl
            · go_wp2
              refine wp_region_lat (by kernel_rfl) (by kernel_rfl) ?_
              repeat (go_big_quiet_step ((go_at_call 175; exact lat_calls (HOP.out _))))
              refine wpQuiet_nil ?_
              intro _ hw'
              obtain ⟨⟨wq, hwq⟩, hw''⟩ := hw'
              subst hw''
              go_wp2
              go_meet
              exact ⟨R, 0, rfl, rfl, HVT, hwq⟩
            · go_wp2
              refine wp_region_lat (by kernel_rfl) (by kernel_rfl) ?_
              repeat (go_big_quiet_step ((go_at_call 175; exact lat_calls (HOP.out _))))
              refine wpQuiet_nil ?_
              intro _ hw'
              obtain ⟨⟨wq, hwq⟩, hw''⟩ := hw'
              subst hw''
              go_wp2
              go_meet
              exact ⟨R, 0, rfl, rfl, HVT, hwq⟩
          · obtain ⟨g5, o5, z0, rfl, hg5, hz0, hc5⟩ := nats_at hin5 (k := 0) (by omega)
            obtain ⟨g6, o6, z1, e6, hg6, hz1, hc6⟩ := nats_at hin5 (k := 1) (by omega)
            obtain ⟨g7, o7, z2, e7, hg7, hz2, hc7⟩ := nats_at hin5 (k := 2) (by omega)
            injection e6 with e6
            injection e6 with e61 e62
            injection e7 with e7
            injection e7 with e71 e72
            subst e61 e62 e71 e72
            rw [Nat.add_zero] at hc5
            have HVT : Hid (valT S V C (17, (y : Int)) (st.drop m) = ((if z0 = 0 then z2 else z1), 0)) := Lib.hid (by
              unfold valT
              simp only []
              rw [if_neg (by decide), if_neg (by decide), if_neg (by decide), if_pos (by trivial), hz0.out, hz1.out, hz2.out])
            clear hnmv f1 f2 k0 k1 hin5
            by_cases hz00 : z0 = 0
            · subst hz00
              go_wp2
              go_meet
              exact ⟨z2, 0, rfl, rfl, HVT, Below.refl _ _⟩
            · have hne : ((z0 : Int) != 0) = true := by simp; omega
              rw [if_neg hz00] at HVT
              clear hz00
              go_wp2
              go_meet
              exact ⟨z1, 0, rfl, rfl, HVT, Below.refl _ _⟩
          · obtain ⟨g5, o5, z0, rfl, hg5, hz0, hc5⟩ := nats_at hin5 (k := 0) (by omega)
            obtain ⟨g6, o6, z1, e6, hg6, hz1, hc6⟩ := nats_at hin5 (k := 1) (by omega)
            injection e6 with e6
            injection e6 with e61 e62
            subst e61 e62
            rw [Nat.add_zero] at hc5
            have f4 := lat_cell hg5 hc5
            have f5 := lat_cell hg5 hc6
            have hzl : z0 < S := by rw [← hz0.out]; exact getD_nat hS0 (fun x hx => hsl x (List.mem_of_mem_drop hx)) 0
            have hzl1 : z1 < S := by rw [← hz1.out]; exact getD_nat hS0 (fun x hx => hsl x (List.mem_of_mem_drop hx)) 1
            have HVT : Hid (valT S V C (x, (y : Int)) (st.drop m) = (opN S x z0 z1, if z1 = 0 ∧ (x = 8 ∨ x = 9) then 1 else 0)) := Lib.hid (by
              unfold valT
              simp only []
              rw [if_neg (by omega), if_neg (by omega), if_neg (by omega), if_neg (by omega), if_neg (by omega), hz0.out, hz1.out])
            have HOP : Hid (∀ p' : Lat wc, Calls Tryz.prog 175 #[.int .i64 (S : Int), .int .i64 x, .int .i64 (z0 : Int), .int .i64 (z1 : Int)] p'.wd fun e w'' => e = .returned (.int .i64 (opN S x z0 z1 : Int)) ∧ Below p'.wd.heap.size p'.wd w'') := Lib.hid (fun p' => HOP0.out x z0 z1 _ hzl hzl1 (by omega) (by omega))
            clear hnmv hin5 k0 k1
            generalize opN S x z0 z1 = R at HVT HOP
            have j0 : (x == 0) = false := by simp; omega
            have j1 : (x == 1) = false := by simp; omega
            have j2 : (x == 2) = false := by simp; omega
            have j3 : (x == 3) = false := by simp; omega
            have j4 : (x == 4) = false := by simp; omega
            have j17 : (x == 17) = false := by simp; omega
            by_cases hz10 : z1 = 0
            · subst hz10
              by_cases h8 : x = 8
              · subst h8
                rw [if_pos ⟨rfl, .inl rfl⟩] at HVT
                clear h516
                go_wp2
                refine wp_region_lat (by kernel_rfl) (by kernel_rfl) ?_
                repeat (go_big_quiet_step ((go_at_call 175; exact lat_calls (HOP.out _))))
                refine wpQuiet_nil ?_
                intro _ hw'
                obtain ⟨⟨wq, hwq⟩, hw''⟩ := hw'
                subst hw''
                go_wp2
                go_meet
                exact ⟨R, 1, rfl, rfl, HVT, hwq⟩
              by_cases h9 : x = 9
              · subst h9
                rw [if_pos ⟨rfl, .inr rfl⟩] at HVT
                clear h516 h8
                go_wp2
                refine wp_region_lat (by kernel_rfl) (by kernel_rfl) ?_
                repeat (go_big_quiet_step ((go_at_call 175; exact lat_calls (HOP.out _))))
                refine wpQuiet_nil ?_
                intro _ hw'
                obtain ⟨⟨wq, hwq⟩, hw''⟩ := hw'
                subst hw''
                go_wp2
                go_meet
                exact ⟨R, 1, rfl, rfl, HVT, hwq⟩
              rw [if_neg (by omega)] at HVT
              have j8 : (x == 8) = false := by simpa using h8
              have j9 : (x == 9) = false := by simpa using h9
              clear h8 h9 h516
              go_wp2
              refine wp_region_lat (by kernel_rfl) (by kernel_rfl) ?_
              repeat (go_big_quiet_step ((go_at_call 175; exact lat_calls (HOP.out _))))
              refine wpQuiet_nil ?_
              intro _ hw'
              obtain ⟨⟨wq, hwq⟩, hw''⟩ := hw'
              subst hw''
              go_wp2
              go_meet
              exact ⟨R, 0, rfl, rfl, HVT, hwq⟩
            · have hne : ((z1 : Int) == 0) = false := by simp; omega
              rw [if_neg (by omega)] at HVT
              clear hz10 h516
              go_wp2
              refine wp_region_lat (by kernel_rfl) (by kernel_rfl) ?_
              repeat (go_big_quiet_step ((go_at_call 175; exact lat_calls (HOP.out _))))
              refine wpQuiet_nil ?_
              intro _ hw'
              obtain ⟨⟨wq, hwq⟩, hw''⟩ := hw'
              subst hw''
              go_wp2
              go_meet
              exact ⟨R, 0, rfl, rfl, HVT, hwq⟩
        case rest =>
          obtain ⟨z, bad, rfl, rfl, HVT, hbw⟩ := hcut
          have hown6 := hown5.below hbw
          have hbel6 := hbel5.trans (hbw.mono hbel5.size)
          have HSK : Hid (stkV S V C (ts.take (k + 1)) = st.take m ++ [z]) := Lib.hid (by rw [HSS2.out, HVT.out])
          have hzl : z < S := HST.out (k + 1) (by omega) z (by rw [HSK.out]; simp)
          have HTK : Hid (trapV S V C ts (k + 1) = if tk = 0 then bad else tk) := Lib.hid (by rw [HTS.out, HVT.out])
          clear hown5 hbel5 hin5 BR hbw HVT HTS HSS2 tm1 hnm HXR
          have hms : m < 1048576 := by omega
          by_cases ht0 : tk = 0
          · subst ht0
            rw [if_pos rfl] at HTK
            go_wp2_with (at_builtin; refine wpList_push _ rfl _ _ rfl wa.heap.size _ _ _ (zl (st.take m)) rfl (hown6.alloc _) wc.heap.size (z : Int) rfl (by simp) (in64_nat (by omega)) hms (by simp; exact Nat.le_succ_of_le hbel6.size) ?_)
            intro a8 c8 w8 hown8 hg8
            have hb8 := below_push (hbel6.alloc hbel6.size _) (hown6.alloc _) (by simp; exact Nat.le_succ_of_le hbel6.size) hg8
            have HO8 : Hid (Own w8 wa.heap.size a8 (m + 1) c8 (zl (stkV S V C (ts.take (k + 1))))) := Lib.hid (by rw [HSK.out]; unfold zl; rw [List.map_append]; exact hown8)
            clear hown8 hg8 hown6
            go_wp2
            go_roundw
            case rel => exact ⟨k + 1, m + 1, c8, a8, by omega, by go_num, rfl, by rw [HTK.out], HO8.out, hb8⟩
            case measure => simp [intOf]; omega
          · have hne : (tk == 0) = false := by simpa using ht0
            rw [if_neg ht0] at HTK
            clear ht0
            go_wp2_with (at_builtin; refine wpList_push _ rfl _ _ rfl wa.heap.size _ _ _ (zl (st.take m)) rfl (hown6.alloc _) wc.heap.size (z : Int) rfl (by simp) (in64_nat (by omega)) hms (by simp; exact Nat.le_succ_of_le hbel6.size) ?_)
            intro a8 c8 w8 hown8 hg8
            have hb8 := below_push (hbel6.alloc hbel6.size _) (hown6.alloc _) (by simp; exact Nat.le_succ_of_le hbel6.size) hg8
            have HO8 : Hid (Own w8 wa.heap.size a8 (m + 1) c8 (zl (stkV S V C (ts.take (k + 1))))) := Lib.hid (by rw [HSK.out]; unfold zl; rw [List.map_append]; exact hown8)
            clear hown8 hg8 hown6
            go_wp2
            go_roundw
            case rel => exact ⟨k + 1, m + 1, c8, a8, by omega, by go_num, rfl, by rw [HTK.out], HO8.out, hb8⟩
            case measure => simp [intOf]; omega
    · obtain rfl : n = k := by omega
      have hts : ts.take n = ts := List.take_of_length_le (by rw [HL.out]; exact Nat.le_refl _)
      rw [hts] at hown
      obtain ⟨d, hd, hdl⟩ := stkV_len S V C ts HRUN.out n (by rw [HL.out]; exact Nat.le_refl _)
      rw [hts, HRUN.out] at hd
      rw [hts] at hdl
      injection hd with hd
      have hml := hown.len
      rw [zl_len] at hml
      obtain rfl : mn = 1 := by omega
      obtain ⟨g5, o5, z0, rfl, hg5, hz0, hc5⟩ := nats_at hown.ints (k := 0) (by omega)
      rw [Nat.add_zero] at hc5
      have HB := Lib.hid BR.bel
      clear hd hdl hml hown
      go_wp2
      go_ret2
      rw [hz0.out]
      exact ⟨rfl, HB.out⟩
end Go.Proofs.YtmooecbdpfhnlaaGreat
/- The contracts of the model's ValueIn and PlainIn. -/
namespace Go.Proofs.YtmooecbdpfhnlaaGreat
open Go.RowKit

/-- May it be reckoned? -/
noncomputable def reckB (p : Prg) (v : Envr) (ts : List Tm) : Bool := envB p v && namesB (2 ^ p.width.toNat) (p.lows.length + p.secrets.length + p.temps.toNat) p.arrays.length ts
noncomputable def plainB (p : Prg) (v : Envr) (ts : List Tm) : Nat := if reckB p v ts = true then (stkV (2 ^ p.width.toNat) v.vars v.cells ts).getD 0 0 else 0
noncomputable def trapB (p : Prg) (v : Envr) (ts : List Tm) : Int := if reckB p v ts = true then trapV (2 ^ p.width.toNat) v.vars v.cells ts ts.length else 0
noncomputable def valueB (p : Prg) (v : Envr) (ts : List Tm) : Nat := if trapB p v ts = 0 then plainB p v ts else 0

theorem valB_ok {S : Nat} {m : Int} {zs : List Int} (h : valB S m zs = true) : (zs.length : Int) = m ∧ ∀ z ∈ zs, 0 ≤ z ∧ z < (S : Int) := by
  simp only [valB, valsB, Bool.and_eq_true, decide_eq_true_eq, List.all_eq_true] at h
  exact ⟨h.1, fun z hz => h.2 z hz⟩
theorem envB_ok {p : Prg} {v : Envr} (h : envB p v = true) : codeB p = 0 ∧ (v.vars.length : Int) = (p.lows.length : Int) + (p.secrets.length : Int) + p.temps ∧ v.cells.length = p.arrays.length ∧ InEnv (2 ^ p.width.toNat) v.vars v.cells ∧ ∀ i, i < v.cells.length → ((intsAt v.cells i).length : Int) = p.arrays.getD i 0 := by
  simp only [envB, Bool.and_eq_true, decide_eq_true_eq, beq_iff_eq] at h
  obtain ⟨⟨h1, h2⟩, h3, h4⟩ := h
  obtain ⟨h5, h6⟩ := valB_ok h2
  simp only [cellsB, List.all_eq_true, List.mem_range] at h4
  refine ⟨h1, h5, h3, ⟨h6, fun cs hcs z hz => ?_⟩, fun i hi => (valB_ok (h4 i hi)).1⟩
  obtain ⟨i, hi, rfl⟩ := List.getElem_of_mem hcs
  have := (valB_ok (h4 i hi)).2
  unfold intsAt at this
  rw [List.getD_eq_getElem?_getD, List.getElem?_eq_getElem hi] at this
  exact this z hz
theorem names_ok {S V A : Nat} {ts : List Tm} (h : namesB S V A ts = true) : ts.length ≤ 3000 ∧ runD 0 ts = some 1 ∧ ∀ t ∈ ts, nameOk S V A t = true := by
  simp only [namesB, Bool.and_eq_true, List.all_eq_true] at h
  have := (expB_iff ts).1 h.1
  exact ⟨this.1, this.2, h.2⟩
theorem env_vars {p : Prg} {v : Envr} (h : envB p v = true) : v.vars.length = p.lows.length + p.secrets.length + p.temps.toNat := by
  obtain ⟨h1, h2, _⟩ := envB_ok h
  have := (code_head h1).2.2.2.2.1
  omega

theorem reck_of {p : Prg} {v : Envr} {ts : List Tm} (h1 : envB p v = true) (h2 : namesB (2 ^ p.width.toNat) (p.lows.length + p.secrets.length + p.temps.toNat) p.arrays.length ts = true) : Reck (2 ^ p.width.toNat) v ts := by
  obtain ⟨_, _, e3, e4, _⟩ := envB_ok h1
  obtain ⟨n1, n2, n3⟩ := names_ok h2
  exact ⟨n2, n1, fun t ht => by rw [env_vars h1, e3]; exact n3 t ht, e4⟩
theorem plainB_lt {P : Prg} {v : Envr} {ts : List Tm} (hok : codeB P = 0) : plainB P v ts < 2 ^ P.width.toNat := by
  have h0 : 0 < 2 ^ P.width.toNat := Nat.pow_pos (by omega)
  unfold plainB
  by_cases hR : reckB P v ts = true
  · rw [if_pos hR]
    simp only [reckB, Bool.and_eq_true] at hR
    have hk := reck_of hR.1 hR.2
    have hW := (code_head hok).1
    have hst := stk_lt (W := P.width.toNat) (by omega) hk.env (ts := ts) (fun t hm h0 => by
      have := hk.named t hm
      unfold nameOk at this
      rw [if_pos h0] at this
      exact of_decide_eq_true this) ts.length (Nat.le_refl _)
    rw [List.take_of_length_le (Nat.le_refl _)] at hst
    exact getD_nat h0 hst 0
  · rw [if_neg hR]; exact h0
end Go.Proofs.YtmooecbdpfhnlaaGreat
/- Plain mathematics of runs: what a statement does to variables, cells and what is put out; how a part of a body ends; that a right part has an end; that a part, cut out, runs as it did. -/
namespace Go.Proofs.YtmooecbdpfhnlaaGreat

/-- The state of a run: variables, cells, what was put out. -/
structure Sta where
  vars : List Int
  cells : List (List Int)
  outs : List Int
/-- How a part ends: (0, 0) done, (1, n) n was thrown, (2, t) the trap t. -/
abbrev Rz := Int × Int
def trS (S : Nat) (q : Sta) (ts : List Tm) : Int := trapV S q.vars q.cells ts ts.length
def vlS (S : Nat) (q : Sta) (ts : List Tm) : Nat := (stkV S q.vars q.cells ts).getD 0 0
def envOf (q : Sta) : Envr := ⟨q.vars, q.cells⟩
def setV (q : Sta) (n : Int) (z : Nat) : Sta := ⟨q.vars.set n.toNat (z : Int), q.cells, q.outs⟩
def putC (q : Sta) (n : Int) (i z : Nat) : Sta := ⟨q.vars, q.cells.set n.toNat ((intsAt q.cells n.toNat).set i (z : Int)), q.outs⟩
def outV (q : Sta) (z : Nat) : Sta := ⟨q.vars, q.cells, q.outs ++ [(z : Int)]⟩

/-- A statement that opens no block. -/
inductive Basic (S : Nat) (s : Stm) (q : Sta) : Sta → Rz → Prop where
  | set (h : s.op = 0) (ht : trS S q s.exp = 0) : Basic S s q (setV q s.n (vlS S q s.exp)) (0, 0)
  | setT (h : s.op = 0) (ht : trS S q s.exp ≠ 0) : Basic S s q q (2, trS S q s.exp)
  | put (h : s.op = 1) (ha : trS S q s.at_ = 0) (ht : trS S q s.exp = 0) (hl : vlS S q s.at_ < (intsAt q.cells s.n.toNat).length) : Basic S s q (putC q s.n (vlS S q s.at_) (vlS S q s.exp)) (0, 0)
  | putA (h : s.op = 1) (ha : trS S q s.at_ ≠ 0) : Basic S s q q (2, trS S q s.at_)
  | putE (h : s.op = 1) (ha : trS S q s.at_ = 0) (ht : trS S q s.exp ≠ 0) : Basic S s q q (2, trS S q s.exp)
  | putC (h : s.op = 1) (ha : trS S q s.at_ = 0) (ht : trS S q s.exp = 0) (hl : ¬ vlS S q s.at_ < (intsAt q.cells s.n.toNat).length) : Basic S s q q (2, 2)
  | out (h : s.op = 6) (ht : trS S q s.exp = 0) : Basic S s q (outV q (vlS S q s.exp)) (0, 0)
  | outT (h : s.op = 6) (ht : trS S q s.exp ≠ 0) : Basic S s q q (2, trS S q s.exp)
  | throw (h : s.op = 7) : Basic S s q q (1, s.n)
  | none (h0 : s.op ≠ 0) (h1 : s.op ≠ 1) (h6 : s.op ≠ 6) (h7 : s.op ≠ 7) : Basic S s q q (0, 0)
theorem basic_total (S : Nat) (s : Stm) (q : Sta) : ∃ q' r, Basic S s q q' r := by
  by_cases h0 : s.op = 0
  · by_cases ht : trS S q s.exp = 0
    · exact ⟨_, _, .set h0 ht⟩
    · exact ⟨_, _, .setT h0 ht⟩
  by_cases h1 : s.op = 1
  · by_cases ha : trS S q s.at_ = 0
    case neg => exact ⟨_, _, .putA h1 ha⟩
    by_cases ht : trS S q s.exp = 0
    case neg => exact ⟨_, _, .putE h1 ha ht⟩
    by_cases hl : vlS S q s.at_ < (intsAt q.cells s.n.toNat).length
    · exact ⟨_, _, .put h1 ha ht hl⟩
    · exact ⟨_, _, .putC h1 ha ht hl⟩
  by_cases h6 : s.op = 6
  · by_cases ht : trS S q s.exp = 0
    · exact ⟨_, _, .out h6 ht⟩
    · exact ⟨_, _, .outT h6 ht⟩
  by_cases h7 : s.op = 7
  · exact ⟨_, _, .throw h7⟩
  exact ⟨_, _, .none h0 h1 h6 h7⟩

/-- What is run: the statements of a part, one statement (its block with it), a part so many times. -/
inductive Mode where
  | seq
  | one
  | rounds (k : Nat)
/-- The part [i, j) (one: the statement at i, whose last place is j) leads from a state to another one, and ends so; s: its steps at most (rounds: of each round). -/
inductive Runs (S : Nat) (ss : List Stm) : Mode → Nat → Nat → Nat → Sta → Sta → Rz → Prop where
  | nil (i : Nat) (q : Sta) : Runs S ss .seq i i 0 q q (0, 0)
  | go {i e j s t : Nat} {q q1 q2 : Sta} {r : Rz} (h : Runs S ss .one i e s q q1 (0, 0)) (t' : Runs S ss .seq (e + 1) j t q1 q2 r) : Runs S ss .seq i j (s + t) q q2 r
  | stop {i e j s t : Nat} {q q1 : Sta} {r : Rz} (h : Runs S ss .one i e s q q1 r) (hr : r.1 ≠ 0) (hj : e < j) : Runs S ss .seq i j (s + t) q q1 r
  | zero (i j s : Nat) (q : Sta) : Runs S ss (.rounds 0) i j s q q (0, 0)
  | again {i j s k : Nat} {q q1 q2 : Sta} {r : Rz} (h : Runs S ss .seq i j s q q1 (0, 0)) (t' : Runs S ss (.rounds k) i j s q1 q2 r) : Runs S ss (.rounds (k + 1)) i j s q q2 r
  | halt {i j s k : Nat} {q q1 : Sta} {r : Rz} (h : Runs S ss .seq i j s q q1 r) (hr : r.1 ≠ 0) : Runs S ss (.rounds (k + 1)) i j s q q1 r
  | plain {i : Nat} {q q' : Sta} {r : Rz} (hi : i < ss.length) (h2 : opAt ss i ≠ 2) (h5 : opAt ss i ≠ 5) (h8 : opAt ss i ≠ 8) (h : Basic S (stAt ss i) q q' r) : Runs S ss .one i i 1 q q' r
  | ifT {i e s : Nat} {q : Sta} {M : Int} (hi : i < ss.length) (h2 : opAt ss i = 2) (he : endOf ss i = (M, (e : Int))) (hie : i < e) (ht : trS S q (stAt ss i).exp ≠ 0) : Runs S ss .one i e s q q (2, trS S q (stAt ss i).exp)
  | if1 {i e s : Nat} {q q' : Sta} {r : Rz} (hi : i < ss.length) (h2 : opAt ss i = 2) (he : endOf ss i = (-1, (e : Int))) (ht : trS S q (stAt ss i).exp = 0) (hv : vlS S q (stAt ss i).exp ≠ 0) (h : Runs S ss .seq (i + 1) e s q q' r) : Runs S ss .one i e (1 + s) q q' r
  | if0 {i e s : Nat} {q : Sta} (hi : i < ss.length) (h2 : opAt ss i = 2) (he : endOf ss i = (-1, (e : Int))) (hie : i < e) (ht : trS S q (stAt ss i).exp = 0) (hv : vlS S q (stAt ss i).exp = 0) : Runs S ss .one i e s q q (0, 0)
  | then_ {i m e s s' : Nat} {q q' : Sta} {r : Rz} (hi : i < ss.length) (h2 : opAt ss i = 2) (he : endOf ss i = ((m : Int), (e : Int))) (ht : trS S q (stAt ss i).exp = 0) (hv : vlS S q (stAt ss i).exp ≠ 0) (h : Runs S ss .seq (i + 1) m s q q' r) : Runs S ss .one i e (1 + max s s') q q' r
  | else_ {i m e s s' : Nat} {q q' : Sta} {r : Rz} (hi : i < ss.length) (h2 : opAt ss i = 2) (he : endOf ss i = ((m : Int), (e : Int))) (ht : trS S q (stAt ss i).exp = 0) (hv : vlS S q (stAt ss i).exp = 0) (h : Runs S ss .seq (m + 1) e s' q q' r) : Runs S ss .one i e (1 + max s s') q q' r
  | loop {i e k s : Nat} {q q' : Sta} {r : Rz} (hi : i < ss.length) (h5 : opAt ss i = 5) (he : endOf ss i = (-1, (e : Int))) (hk : (stAt ss i).n = (k : Int)) (h4 : k ≤ 4) (h : Runs S ss (.rounds k) (i + 1) e s q q' r) : Runs S ss .one i e (1 + k * (1 + s)) q q' r
  | try_ {i m e s s' : Nat} {q q' : Sta} {r : Rz} (hi : i < ss.length) (h8 : opAt ss i = 8) (he : endOf ss i = ((m : Int), (e : Int))) (h : Runs S ss .seq (i + 1) m s q q' r) (hr : r ≠ (1, (stAt ss m).n)) : Runs S ss .one i e (1 + s + s') q q' r
  | catch_ {i m e s s' : Nat} {q q1 q' : Sta} {r : Rz} (hi : i < ss.length) (h8 : opAt ss i = 8) (he : endOf ss i = ((m : Int), (e : Int))) (h : Runs S ss .seq (i + 1) m s q q1 (1, (stAt ss m).n)) (h' : Runs S ss .seq (m + 1) e s' q1 q' r) : Runs S ss .one i e (1 + s + s') q q' r


theorem trS_of {S : Nat} {q : Sta} {ts : List Tm} (h : trS S q ts ≠ 0) : trS S q ts = 1 ∨ trS S q ts = 2 := by
  have := trapV_range S q.vars q.cells ts ts.length
  unfold trS at h ⊢
  omega
/-- What an end is. -/
def Fin (r : Rz) : Prop := r = (0, 0) ∨ (∃ n, r = (1, n)) ∨ r = (2, 1) ∨ r = (2, 2)
theorem fin_trap {S : Nat} {q : Sta} {ts : List Tm} (h : trS S q ts ≠ 0) : Fin (2, trS S q ts) := by
  rcases trS_of h with e | e <;> rw [e]
  · exact .inr (.inr (.inl rfl))
  · exact .inr (.inr (.inr rfl))
theorem Basic.fin {S : Nat} {s : Stm} {q q' : Sta} {r : Rz} (h : Basic S s q q' r) : Fin r := by
  cases h with
  | setT _ h | putA _ h | putE _ _ h | outT _ h => exact fin_trap h
  | putC => exact .inr (.inr (.inr rfl))
  | throw => exact .inr (.inl ⟨_, rfl⟩)
  | _ => exact .inl rfl
theorem Runs.fin {S : Nat} {ss : List Stm} {m : Mode} {i j s : Nat} {q q' : Sta} {r : Rz} (h : Runs S ss m i j s q q' r) : Fin r := by
  induction h with
  | plain _ _ _ _ h => exact h.fin
  | ifT _ _ _ _ h => exact fin_trap h
  | nil | zero | if0 => exact .inl rfl
  | _ => assumption
theorem Fin.go {r : Rz} (h : Fin r) : r = (0, 0) ∨ r.1 ≠ 0 := by
  rcases h with h | ⟨n, h⟩ | h | h <;> subst h
  · exact .inl rfl
  · exact .inr (fun h : (1 : Int) = 0 => by omega)
  · exact .inr (by decide)
  · exact .inr (by decide)
theorem Runs.le {S : Nat} {ss : List Stm} {m : Mode} {i j s : Nat} {q q' : Sta} {r : Rz} (h : Runs S ss m i j s q q' r) : (m = .seq ∨ m = .one → i ≤ j) ∧ (m = .one → j < ss.length) := by
  induction h with
  | nil i => exact ⟨fun _ => Nat.le_refl _, fun h => by cases h⟩
  | go _ _ ih1 ih2 => exact ⟨fun _ => by have := ih1.1 (.inr rfl); have := ih2.1 (.inl rfl); omega, fun h => by cases h⟩
  | stop _ _ hj ih => exact ⟨fun _ => by have := ih.1 (.inr rfl); omega, fun h => by cases h⟩
  | zero | again | halt => exact ⟨fun h => (by rcases h with h | h <;> cases h), fun h => by cases h⟩
  | plain hi => exact ⟨fun _ => Nat.le_refl _, fun _ => hi⟩
  | ifT hi _ he | if1 hi _ he | if0 hi _ he | then_ hi _ he | else_ hi _ he | loop hi _ he | try_ hi _ he | catch_ hi _ he =>
    have := end_in ss hi
    rw [he] at this
    rcases this with e | e
    · injection e with _ e; omega
    · simp only [] at e; exact ⟨fun _ => by omega, fun _ => by omega⟩
theorem Runs.seq_le {S : Nat} {ss : List Stm} {i j s : Nat} {q q' : Sta} {r : Rz} (h : Runs S ss .seq i j s q q' r) : i ≤ j := h.le.1 (.inl rfl)
theorem Runs.one_le {S : Nat} {ss : List Stm} {i j s : Nat} {q q' : Sta} {r : Rz} (h : Runs S ss .one i j s q q' r) : i ≤ j ∧ j < ss.length := ⟨h.le.1 (.inr rfl), h.le.2 rfl⟩
theorem end_places {ss : List Stm} {i e : Nat} {M : Int} (hi : i < ss.length) (he : endOf ss i = (M, (e : Int))) : i < e ∧ e < ss.length ∧ (M = -1 ∨ ((i : Int) < M ∧ M < e)) := by
  have := end_in ss hi
  rw [he] at this
  rcases this with q | q
  · injection q with _ q; omega
  · simp only [] at q; omega
/-- What is put out is at most the steps. -/
def roundS : Mode → Nat → Nat
  | .rounds k, s => k * (1 + s)
  | _, s => s
theorem Basic.outs {S : Nat} {s : Stm} {q q' : Sta} {r : Rz} (h : Basic S s q q' r) : q'.outs.length ≤ q.outs.length + 1 := by
  cases h <;> simp [setV, Go.Proofs.YtmooecbdpfhnlaaGreat.putC, outV]
theorem Runs.outs {S : Nat} {ss : List Stm} {m : Mode} {i j s : Nat} {q q' : Sta} {r : Rz} (h : Runs S ss m i j s q q' r) : q'.outs.length ≤ q.outs.length + roundS m s := by
  induction h with
  | plain _ _ _ _ h => exact h.outs
  | again _ _ ih1 ih2 => simp only [roundS] at ih1 ih2 ⊢; rw [Nat.add_mul]; omega
  | halt _ _ ih1 => simp only [roundS] at ih1 ⊢; rw [Nat.add_mul]; omega
  | nil | zero | ifT | if0 => exact Nat.le_add_right _ _
  | _ => simp only [roundS] at *; omega
theorem rounds_total {S : Nat} {ss : List Stm} {i j s : Nat} (H : ∀ q, ∃ q' r, Runs S ss .seq i j s q q' r) : ∀ (k : Nat) (q : Sta), ∃ q' r, Runs S ss (.rounds k) i j s q q' r
  | 0, q => ⟨q, _, .zero i j s q⟩
  | k + 1, q => by
    obtain ⟨q1, r1, h1⟩ := H q
    rcases h1.fin.go with hr | hr
    · subst hr
      obtain ⟨q2, r2, h2⟩ := rounds_total H k q1
      exact ⟨_, _, .again h1 h2⟩
    · exact ⟨_, _, .halt h1 hr⟩
theorem runs_next {S : Nat} {ss : List Stm} {i e j s t : Nat} {q : Sta} (h : ∃ q1 r, Runs S ss .one i e s q q1 r) (hj : e < j) (H : ∀ q, ∃ q' r, Runs S ss .seq (e + 1) j t q q' r) : ∃ q' r, Runs S ss .seq i j (s + t) q q' r := by
  obtain ⟨q1, r1, h1⟩ := h
  rcases h1.fin.go with hr | hr
  · subst hr
    obtain ⟨q2, r2, h2⟩ := H q1
    exact ⟨_, _, .go h1 h2⟩
  · exact ⟨_, _, .stop h1 hr hj⟩
/-- A part that takes steps has an end, whatever the state. -/
theorem runs_total {S : Nat} {ss : List Stm} {i j s : Nat} (h : Steps ss i j s) : ∀ q, ∃ q' r, Runs S ss .seq i j s q q' r := by
  induction h with
  | nil i => exact fun q => ⟨_, _, .nil i q⟩
  | @plain i j s hi h2 h5 h8 t ih =>
    intro q
    obtain ⟨q1, r1, hb⟩ := basic_total S (stAt ss i) q
    have := (steps_small t).1
    exact runs_next ⟨q1, r1, .plain hi h2 h5 h8 hb⟩ (by omega) ih
  | @one i e j s t hi h2 he p p2 ih1 ih2 =>
    intro q
    have h3 := (steps_small p2).1
    have h4 := end_places hi he
    refine runs_next (e := e) (s := 1 + s) ?_ (by omega) ih2
    by_cases ht : trS S q (stAt ss i).exp = 0
    case neg => exact ⟨_, _, .ifT hi h2 he h4.1 ht⟩
    by_cases hv : vlS S q (stAt ss i).exp = 0
    · exact ⟨_, _, .if0 hi h2 he h4.1 ht hv⟩
    · obtain ⟨q1, r1, h⟩ := ih1 q
      exact ⟨_, _, .if1 hi h2 he ht hv h⟩
  | @two i m e j s s' t hi h2 he p p' p2 ih1 ih1' ih2 =>
    intro q
    have h3 := (steps_small p2).1
    have h4 := end_places hi he
    refine runs_next (e := e) (s := 1 + max s s') ?_ (by omega) ih2
    by_cases ht : trS S q (stAt ss i).exp = 0
    case neg => exact ⟨_, _, .ifT hi h2 he h4.1 ht⟩
    by_cases hv : vlS S q (stAt ss i).exp = 0
    · obtain ⟨q1, r1, h⟩ := ih1' q
      exact ⟨_, _, .else_ hi h2 he ht hv h⟩
    · obtain ⟨q1, r1, h⟩ := ih1 q
      exact ⟨_, _, .then_ hi h2 he ht hv h⟩
  | @loop i e j k s t hi h5 he hk h4 p p2 ih1 ih2 =>
    intro q
    have h3 := (steps_small p2).1
    refine runs_next (e := e) (s := 1 + k * (1 + s)) ?_ (by omega) ih2
    obtain ⟨q1, r1, h⟩ := rounds_total ih1 k q
    exact ⟨_, _, .loop hi h5 he hk h4 h⟩
  | @attempt i m e j s s' t hi h8 he p p' p2 ih1 ih1' ih2 =>
    intro q
    have h3 := (steps_small p2).1
    refine runs_next (e := e) (s := 1 + s + s') ?_ (by omega) ih2
    obtain ⟨q1, r1, h⟩ := ih1 q
    by_cases hr : r1 = (1, (stAt ss m).n)
    · subst hr
      obtain ⟨q2, r2, h'⟩ := ih1' q1
      exact ⟨_, _, .catch_ hi h8 he h h'⟩
    · exact ⟨_, _, .try_ hi h8 he h hr⟩
/-- A part, cut out, runs as it did. -/
theorem runs_seg {S : Nat} {ss : List Stm} {lo hi : Nat} (h1 : lo ≤ hi) (h2 : hi ≤ ss.length) {m : Mode} {i j s : Nat} {q q' : Sta} {r : Rz} (h : Runs S ss m i j s q q' r) : ∀ i' j', i = lo + i' → j = lo + j' → j ≤ hi → (m = .one → j < hi) → Runs S (seg ss lo hi) m i' j' s q q' r := by
  have hl := seg_len h1 h2
  induction h with
  | nil i =>
    intro i' j' e1 e2 _ _
    obtain rfl : i' = j' := by omega
    exact .nil _ _
  | @go i e j s t q q1 q2 r h t' ih1 ih2 =>
    intro i' j' e1 e2 hj _
    have := h.one_le
    have := t'.seq_le
    obtain ⟨e', rfl⟩ : ∃ e', e = lo + e' := ⟨e - lo, by omega⟩
    exact .go (ih1 i' e' e1 rfl (by omega) (fun _ => by omega)) (ih2 (e' + 1) j' (by omega) e2 hj (fun h => by cases h))
  | @stop i e j s t q q1 r h hr hj' ih =>
    intro i' j' e1 e2 hj _
    have := h.one_le
    obtain ⟨e', rfl⟩ : ∃ e', e = lo + e' := ⟨e - lo, by omega⟩
    exact .stop (ih i' e' e1 rfl (by omega) (fun _ => by omega)) hr (by omega)
  | zero i j s q => exact fun i' j' _ _ _ _ => .zero i' j' s q
  | again h t' ih1 ih2 => exact fun i' j' e1 e2 hj _ => .again (ih1 i' j' e1 e2 hj (fun h => by cases h)) (ih2 i' j' e1 e2 hj (fun h => by cases h))
  | halt h hr ih => exact fun i' j' e1 e2 hj _ => .halt (ih i' j' e1 e2 hj (fun h => by cases h)) hr
  | @plain i q q' r hi' g2 g5 g8 h =>
    intro i' j' e1 e2 hj hm
    have := hm rfl
    obtain rfl : i' = j' := by omega
    subst e1
    have hop := seg_op (ss := ss) (lo := lo) (hi := hi) (i := i') (by omega)
    have hat := seg_at (ss := ss) (lo := lo) (hi := hi) (i := i') (by omega)
    exact .plain (by omega) (by rw [hop]; exact g2) (by rw [hop]; exact g5) (by rw [hop]; exact g8) (by rw [hat]; exact h)
  | @ifT i e s q M hi' g2 he hie ht =>
    intro i' j' e1 e2 hj hm
    have := hm rfl
    subst e1 e2
    have hop := seg_op (ss := ss) (lo := lo) (hi := hi) (i := i') (by omega)
    have hat := seg_at (ss := ss) (lo := lo) (hi := hi) (i := i') (by omega)
    have hp := end_places hi' he
    rw [← hat] at ht ⊢
    rcases hp.2.2 with e | e
    · subst e
      exact .ifT (by omega) (by rw [hop]; exact g2) ((seg_end h1 h2 (by omega)).1 j' he (by omega)) (by omega) ht
    · obtain ⟨m', rfl⟩ : ∃ m' : Nat, M = ((lo + m' : Nat) : Int) := ⟨(M - lo).toNat, by omega⟩
      exact .ifT (by omega) (by rw [hop]; exact g2) ((seg_end h1 h2 (by omega)).2 m' j' he (by omega)) (by omega) ht
  | @if1 i e s q q' r hi' g2 he ht hv h ih =>
    intro i' j' e1 e2 hj hm
    have := hm rfl
    subst e1 e2
    have hp := end_places hi' he
    have hop := seg_op (ss := ss) (lo := lo) (hi := hi) (i := i') (by omega)
    have hat := seg_at (ss := ss) (lo := lo) (hi := hi) (i := i') (by omega)
    exact .if1 (by omega) (by rw [hop]; exact g2) ((seg_end h1 h2 (by omega)).1 j' he (by omega)) (by rw [hat]; exact ht) (by rw [hat]; exact hv) (ih (i' + 1) j' (by omega) rfl (by omega) (fun h => by cases h))
  | @if0 i e s q hi' g2 he hie ht hv =>
    intro i' j' e1 e2 hj hm
    have := hm rfl
    subst e1 e2
    have hop := seg_op (ss := ss) (lo := lo) (hi := hi) (i := i') (by omega)
    have hat := seg_at (ss := ss) (lo := lo) (hi := hi) (i := i') (by omega)
    exact .if0 (by omega) (by rw [hop]; exact g2) ((seg_end h1 h2 (by omega)).1 j' he (by omega)) (by omega) (by rw [hat]; exact ht) (by rw [hat]; exact hv)
  | @then_ i m e s s' q q' r hi' g2 he ht hv h ih =>
    intro i' j' e1 e2 hj hm
    have := hm rfl
    subst e1 e2
    have hp := end_places hi' he
    obtain ⟨m', rfl⟩ : ∃ m', m = lo + m' := ⟨m - lo, by omega⟩
    have hop := seg_op (ss := ss) (lo := lo) (hi := hi) (i := i') (by omega)
    have hat := seg_at (ss := ss) (lo := lo) (hi := hi) (i := i') (by omega)
    exact .then_ (by omega) (by rw [hop]; exact g2) ((seg_end h1 h2 (by omega)).2 m' j' he (by omega)) (by rw [hat]; exact ht) (by rw [hat]; exact hv) (ih (i' + 1) m' (by omega) rfl (by omega) (fun h => by cases h))
  | @else_ i m e s s' q q' r hi' g2 he ht hv h ih =>
    intro i' j' e1 e2 hj hm
    have := hm rfl
    subst e1 e2
    have hp := end_places hi' he
    obtain ⟨m', rfl⟩ : ∃ m', m = lo + m' := ⟨m - lo, by omega⟩
    have hop := seg_op (ss := ss) (lo := lo) (hi := hi) (i := i') (by omega)
    have hat := seg_at (ss := ss) (lo := lo) (hi := hi) (i := i') (by omega)
    exact .else_ (by omega) (by rw [hop]; exact g2) ((seg_end h1 h2 (by omega)).2 m' j' he (by omega)) (by rw [hat]; exact ht) (by rw [hat]; exact hv) (ih (m' + 1) j' (by omega) rfl (by omega) (fun h => by cases h))
  | @loop i e k s q q' r hi' g5 he hk h4 h ih =>
    intro i' j' e1 e2 hj hm
    have := hm rfl
    subst e1 e2
    have hp := end_places hi' he
    have hop := seg_op (ss := ss) (lo := lo) (hi := hi) (i := i') (by omega)
    have hat := seg_at (ss := ss) (lo := lo) (hi := hi) (i := i') (by omega)
    exact .loop (by omega) (by rw [hop]; exact g5) ((seg_end h1 h2 (by omega)).1 j' he (by omega)) (by rw [hat]; exact hk) h4 (ih (i' + 1) j' (by omega) rfl (by omega) (fun h => by cases h))
  | @try_ i m e s s' q q' r hi' g8 he h hr ih =>
    intro i' j' e1 e2 hj hm
    have := hm rfl
    subst e1 e2
    have hp := end_places hi' he
    obtain ⟨m', rfl⟩ : ∃ m', m = lo + m' := ⟨m - lo, by omega⟩
    have hop := seg_op (ss := ss) (lo := lo) (hi := hi) (i := i') (by omega)
    have hat := seg_at (ss := ss) (lo := lo) (hi := hi) (i := m') (by omega)
    exact .try_ (by omega) (by rw [hop]; exact g8) ((seg_end h1 h2 (by omega)).2 m' j' he (by omega)) (ih (i' + 1) m' (by omega) rfl (by omega) (fun h => by cases h)) (by rw [hat]; exact hr)
  | @catch_ i m e s s' q q1 q' r hi' g8 he h h' ih ih' =>
    intro i' j' e1 e2 hj hm
    have := hm rfl
    subst e1 e2
    have hp := end_places hi' he
    obtain ⟨m', rfl⟩ : ∃ m', m = lo + m' := ⟨m - lo, by omega⟩
    have hop := seg_op (ss := ss) (lo := lo) (hi := hi) (i := i') (by omega)
    have hat := seg_at (ss := ss) (lo := lo) (hi := hi) (i := m') (by omega)
    rw [← hat] at ih
    exact .catch_ (by omega) (by rw [hop]; exact g8) ((seg_end h1 h2 (by omega)).2 m' j' he (by omega)) (ih (i' + 1) m' (by omega) rfl (by omega) (fun h => by cases h)) (ih' (m' + 1) j' (by omega) rfl (by omega) (fun h => by cases h))
theorem runs_part {S : Nat} {ss : List Stm} {i j s : Nat} {q q' : Sta} {r : Rz} (h : Runs S ss .seq i j s q q' r) (hj : j ≤ ss.length) : Runs S (seg ss i j) .seq 0 (j - i) s q q' r :=
  runs_seg h.seq_le hj h 0 (j - i) rfl (by have := h.seq_le; omega) (Nat.le_refl _) (fun h => by cases h)
end Go.Proofs.YtmooecbdpfhnlaaGreat
/- The memory of a run: the rows of variables, of cells, of what was put out, each in a block of its own; what a write leaves. The states of a right program. -/
namespace Go.Proofs.YtmooecbdpfhnlaaGreat
open Go.RowKit

section
variable {w w' : World} {B : Nat} {a : Option Addr} {n c : Nat} {zs : List Int} {rs : List Sl} {css : List (List Int)} {row : Option Nat}
theorem Own.keep (h : Own w B a n c zs) (hg : w.grownBy w' row) (hr : ∀ g, (Value.slice a n c).ownBlock = some g → row ≠ some g) : Own w' B a n c zs := by
  refine ⟨h.1.kept hg ?_, h.2⟩
  cases hv : (Value.slice a n c).ownBlock with
  | none => exact .inl rfl
  | some g => exact .inr fun e => hr g hv e.symm
theorem OwnIS.keep (h : OwnIS w B a n c rs css) (hg : w.grownBy w' row) (ho : ∀ g, (Value.slice a n c).ownBlock = some g → row ≠ some g) (hr : ∀ i g, i < n → (slV (slAt rs i)).ownBlock = some g → row ≠ some g) : OwnIS w' B a n c rs css := by
  refine ⟨h.1.kept hg ?_, h.2.1, h.2.2.1, fun i hi => (h.2.2.2 i hi).keep hg (hr i · hi)⟩
  cases hv : (Value.slice a n c).ownBlock with
  | none => exact .inl rfl
  | some g => exact .inr fun e => ho g hv e.symm
/-- A box of another type is no such row. -/
theorem blk_apart {b : Nat} {t e : TypeId} {xs vs : List Value} {v : Value} {size m : Nat} (hb : Blk w b t xs) (ho : w.ownsRow B e size v m vs) (hne : t ≠ e) : ∀ g, v.ownBlock = some g → (some b : Option Nat) ≠ some g := by
  intro g hg hbg
  injection hbg with hbg
  subst hbg
  obtain ⟨c1, f1, e1⟩ := Go.Lib.ownsRow_kind ho b hg
  rw [show w.heap[b]? = _ from hb] at e1
  injection e1 with e1
  injection e1 with _ e1
  exact hne e1
end
/-- The rows of a run. -/
structure EnvMem (w : World) (B : Nat) (er : ERow) (os : Sl) (q : Sta) : Prop where
  vars : Own w B er.vars.1 er.vars.2.1 er.vars.2.2 q.vars
  cells : OwnIS w B er.cells.1 er.cells.2.1 er.cells.2.2 er.rows q.cells
  outs : Own w B os.1 os.2.1 os.2.2 q.outs
  vo : ∀ g, (slV er.vars).ownBlock = some g → (slV os).ownBlock ≠ some g
  cv : ∀ i g, i < er.cells.2.1 → (slV (slAt er.rows i)).ownBlock = some g → (slV er.vars).ownBlock ≠ some g
  co : ∀ i g, i < er.cells.2.1 → (slV (slAt er.rows i)).ownBlock = some g → (slV os).ownBlock ≠ some g
  cc : ∀ i j g, i < er.cells.2.1 → j < er.cells.2.1 → (slV (slAt er.rows i)).ownBlock = some g → (slV (slAt er.rows j)).ownBlock = some g → i = j
section
variable {w w' : World} {B : Nat} {er : ERow} {os os' : Sl} {q : Sta} {row : Option Nat}
theorem EnvMem.env (h : EnvMem w B er os q) : EnvAt w er (envOf q) := ⟨h.vars.ints, h.cells.reads⟩
theorem EnvMem.below (h : EnvMem w B er os q) (hb : Below w.heap.size w w') : EnvMem w' B er os q := ⟨h.vars.below hb, h.cells.below hb, h.outs.below hb, h.vo, h.cv, h.co, h.cc⟩
theorem EnvMem.alloc (h : EnvMem w B er os q) (o : Obj) : EnvMem (w.alloc o) B er os q := h.below ((Below.refl _ _).alloc (Nat.le_refl _) o)
theorem EnvMem.drewN (h : EnvMem w B er os q) (k : Nat) : EnvMem (w.drewN k) B er os q := h.below ⟨rfl, rfl, rfl, Nat.le_refl _, fun _ _ => rfl⟩
theorem EnvMem.keep (h : EnvMem w B er os q) (hg : w.grownBy w' row) (hv : ∀ g, (slV er.vars).ownBlock = some g → row ≠ some g) (ho : ∀ g, (slV os).ownBlock = some g → row ≠ some g) (hc : ∀ g, (slV er.cells).ownBlock = some g → row ≠ some g) (hr : ∀ i g, i < er.cells.2.1 → (slV (slAt er.rows i)).ownBlock = some g → row ≠ some g) : EnvMem w' B er os q :=
  ⟨h.vars.keep hg hv, h.cells.keep hg hc hr, h.outs.keep hg ho, h.vo, h.cv, h.co, h.cc⟩
/-- What is written into a box of another type. -/
theorem EnvMem.box (h : EnvMem w B er os q) {b : Nat} {t : TypeId} {xs : List Value} (hb : Blk w b t xs) (h1 : t ≠ 2) (h2 : t ≠ 28) (hg : w.grownBy w' (some b)) : EnvMem w' B er os q :=
  h.keep hg (blk_apart hb h.vars.1 h1) (blk_apart hb h.outs.1 h1) (blk_apart hb h.cells.1 h2) (fun i g hi hgg => blk_apart hb (h.cells.2.2.2 i hi).1 h1 g hgg)
theorem EnvMem.set (h : EnvMem w B er os q) {b j : Nat} {t : TypeId} {xs : List Value} (hb : Blk w b t xs) (h1 : t ≠ 2) (h2 : t ≠ 28) (v : Value) : EnvMem (w.setCell ⟨b, j, none⟩ v) B er os q := h.box hb h1 h2 (grown_set _ _ _ _)
theorem in64_set {zs : List Int} {k : Nat} {z : Int} (h : ∀ x ∈ zs, In64 x) (hz : In64 z) : ∀ x ∈ zs.set k z, In64 x := fun x hx => by
  rcases List.mem_or_eq_of_mem_set hx with h' | h'
  · exact h x h'
  · rw [h']; exact hz
/-- A variable is written. -/
theorem EnvMem.setV (h : EnvMem w B er os q) {g k : Nat} {z : Nat} (hz : In64 (z : Int)) (ha : er.vars.1 = some ⟨g, 0, none⟩) {n : Int} (hk : n.toNat = k) : EnvMem (w.setCell ⟨g, k, none⟩ (.int .i64 (z : Int))) B er os (setV q n z) := by
  subst hk
  have hb : (slV er.vars).ownBlock = some g := by rw [slV, ha]; rfl
  have hg := grown_set w g n.toNat (.int .i64 (z : Int))
  have hv := h.vars
  rw [ha] at hv
  refine ⟨?_, h.cells.keep hg (fun g' hg' e => ?_) (fun i g' hi hg' e => ?_), h.outs.keep hg (fun g' hg' e => ?_), h.vo, h.cv, h.co, h.cc⟩
  · rw [ha]
    exact ⟨own_put hv.1 _ _, hv.2.1, in64_set hv.2.2 hz⟩
  · injection e with e
    subst e
    exact own_kinds h.cells.1 h.vars.1 (by decide) hg' hb
  · injection e with e
    subst e
    exact h.cv i g hi hg' hb
  · injection e with e
    subst e
    exact h.vo g hb hg'
/-- A cell is written. -/
theorem EnvMem.putC (h : EnvMem w B er os q) {g k i : Nat} {z : Nat} (hz : In64 (z : Int)) (hi : i < er.cells.2.1) (ha : (slAt er.rows i).1 = some ⟨g, 0, none⟩) {n : Int} (hk : n.toNat = i) : EnvMem (w.setCell ⟨g, k, none⟩ (.int .i64 (z : Int))) B er os (putC q n k z) := by
  subst hk
  have hb : (slV (slAt er.rows n.toNat)).ownBlock = some g := by rw [slV, ha]; rfl
  have hg := grown_set w g k (.int .i64 (z : Int))
  have hlen : q.cells.length = er.cells.2.1 := h.cells.2.2.1
  refine ⟨h.vars.keep hg (fun g' hg' e => ?_), ⟨h.cells.1.kept hg ?_, h.cells.2.1, ?_, fun j hj => ?_⟩, h.outs.keep hg (fun g' hg' e => ?_), h.vo, h.cv, h.co, h.cc⟩
  · injection e with e
    subst e
    exact h.cv _ g hi hb hg'
  · cases hv : (Value.slice er.cells.1 er.cells.2.1 er.cells.2.2).ownBlock with
    | none => exact .inl rfl
    | some g' =>
      refine .inr fun e => ?_
      injection e with e
      subst e
      exact own_kinds h.cells.1 (h.cells.2.2.2 _ hi).1 (by decide) hv hb
  · simp [Go.Proofs.YtmooecbdpfhnlaaGreat.putC, hlen]
  · have ho := h.cells.2.2.2 j hj
    by_cases hjn : j = n.toNat
    · subst hjn
      have e : intsAt (Go.Proofs.YtmooecbdpfhnlaaGreat.putC q n k z).cells n.toNat = (intsAt q.cells n.toNat).set k (z : Int) := by
        show (q.cells.set n.toNat _).getD n.toNat [] = _
        rw [List.getD_eq_getElem?_getD, List.getElem?_set_self (by omega)]
        rfl
      rw [e]
      rw [ha] at ho ⊢
      exact ⟨own_put ho.1 _ _, ho.2.1, in64_set ho.2.2 hz⟩
    · have e : intsAt (Go.Proofs.YtmooecbdpfhnlaaGreat.putC q n k z).cells j = intsAt q.cells j := by
        show (q.cells.set n.toNat _).getD j [] = _
        rw [List.getD_eq_getElem?_getD, List.getElem?_set_ne (by omega)]
        rw [intsAt, List.getD_eq_getElem?_getD]
      rw [e]
      exact ho.keep hg (fun g' hg' e' => hjn (by injection e' with e'; subst e'; exact h.cc _ _ g hj hi hg' hb))
  · injection e with e
    subst e
    exact h.co _ g hi hb hg'
/-- A value is put out. -/
theorem EnvMem.push (h : EnvMem w B er os q) {z : Nat} (ho : Own w' B os'.1 os'.2.1 os'.2.2 (q.outs ++ [(z : Int)])) (hg : GrowsTo w (slV os) w' (slV os')) : EnvMem w' B er os' (outV q z) := by
  have new : ∀ g, (slV os').ownBlock = some g → g < w.heap.size → (slV os).ownBlock = some g := fun g h1 h2 => by
    rcases hg.2 g h1 with h | h
    · exact h
    · omega
  refine ⟨h.vars.keep hg.1 (fun g hgg e => h.vo g hgg e), h.cells.keep hg.1 (fun g hgg e => own_kinds h.cells.1 h.outs.1 (by decide) hgg e) (fun i g hi hgg e => h.co i g hi hgg e), ho, fun g hgg e => ?_, h.cv, fun i g hi hgg e => ?_, h.cc⟩
  · exact h.vo g hgg (new g e (h.vars.block g hgg).2)
  · exact h.co i g hi hgg (new g e ((h.cells.2.2.2 i hi).block g hgg).2)
/-- A row that the variables' or the cells' or outs' is lies from B on. -/
theorem EnvMem.varsB (h : EnvMem w B er os q) {g : Nat} (ha : er.vars.1 = some ⟨g, 0, none⟩) : B ≤ g := (h.vars.block g (by rw [ha]; rfl)).1
theorem EnvMem.cellB (h : EnvMem w B er os q) {i g : Nat} (hi : i < er.cells.2.1) (ha : (slAt er.rows i).1 = some ⟨g, 0, none⟩) : B ≤ g := ((h.cells.2.2.2 i hi).block g (by rw [ha]; rfl)).1
end

/-- A state of the program p. -/
structure StaOk (p : Prg) (q : Sta) : Prop where
  env : envB p (envOf q) = true
  outs : ∀ z ∈ q.outs, 0 ≤ z ∧ z < ((2 ^ p.width.toNat : Nat) : Int)
/-- A statement of it. -/
def goodS (p : Prg) (s : Stm) : Prop := stmtB (2 ^ p.width.toNat) (p.lows.length + p.secrets.length) p.temps.toNat p.arrays.length s = true
theorem goodS_exp {p : Prg} {s : Stm} (h : goodS p s) (ho : s.op = 0 ∨ s.op = 1 ∨ s.op = 2 ∨ s.op = 6) : namesB (2 ^ p.width.toNat) (p.lows.length + p.secrets.length + p.temps.toNat) p.arrays.length s.exp = true ∧ s.exp.length ≤ 40 := by
  simp only [goodS, stmtB, Bool.and_eq_true] at h
  have hb : bears s.op = true := by
    unfold bears
    rcases ho with e | e | e | e <;> rw [e] <;> rfl
  have := h.1.1.2
  rw [hb] at this
  simp only [Bool.not_true, Bool.false_or, bodyB, Bool.and_eq_true, decide_eq_true_eq] at this
  exact ⟨this.2.2, this.2.1⟩
theorem goodS_at {p : Prg} {s : Stm} (h : goodS p s) (ho : s.op = 1) : namesB (2 ^ p.width.toNat) (p.lows.length + p.secrets.length + p.temps.toNat) p.arrays.length s.at_ = true ∧ s.at_.length ≤ 40 := by
  simp only [goodS, stmtB, Bool.and_eq_true] at h
  have := h.1.2
  rw [ho] at this
  simp only [beq_self_eq_true, Bool.not_true, Bool.false_or, bodyB, Bool.and_eq_true, decide_eq_true_eq] at this
  exact ⟨this.2.2, this.2.1⟩
theorem goodS_num {p : Prg} {s : Stm} (h : goodS p s) : numOk (p.lows.length + p.secrets.length) p.temps.toNat p.arrays.length s.op s.n = true := by
  simp only [goodS, stmtB, Bool.and_eq_true] at h
  exact h.2
theorem goodS_set {p : Prg} {s : Stm} {q : Sta} (h : goodS p s) (hq : StaOk p q) (ho : s.op = 0) : 0 ≤ s.n ∧ s.n.toNat < q.vars.length := by
  have := goodS_num h
  rw [ho] at this
  simp only [numOk, if_pos, Bool.and_eq_true, decide_eq_true_eq] at this
  have e := env_vars hq.env
  simp only [envOf] at e
  omega
theorem goodS_put {p : Prg} {s : Stm} {q : Sta} (h : goodS p s) (hq : StaOk p q) (ho : s.op = 1) : 0 ≤ s.n ∧ s.n.toNat < q.cells.length := by
  have := goodS_num h
  rw [ho] at this
  simp [numOk] at this
  have e := (envB_ok hq.env).2.2.1
  simp only [envOf] at e
  omega
theorem goodS_reck {p : Prg} {q : Sta} {ts : List Tm} (hq : StaOk p q) (h : namesB (2 ^ p.width.toNat) (p.lows.length + p.secrets.length + p.temps.toNat) p.arrays.length ts = true) : Reck (2 ^ p.width.toNat) (envOf q) ts := reck_of hq.env h
theorem vl_lt {p : Prg} {q : Sta} {ts : List Tm} (hq : StaOk p q) (h : namesB (2 ^ p.width.toNat) (p.lows.length + p.secrets.length + p.temps.toNat) p.arrays.length ts = true) : vlS (2 ^ p.width.toNat) q ts < 2 ^ p.width.toNat := by
  have := plainB_lt (P := p) (v := envOf q) (ts := ts) (envB_ok hq.env).1
  rw [plainB, reckB, hq.env, h, if_pos (by rfl)] at this
  exact this
theorem pow_256 {p : Prg} (h : codeB p = 0) : 2 ^ p.width.toNat ≤ 256 := Nat.pow_le_pow_right (n := 2) (j := 8) (by omega) (by have := (code_head h).2.1; omega)
theorem envB_of {p : Prg} {v : Envr} (h : codeB p = 0) (h1 : (v.vars.length : Int) = (p.lows.length : Int) + (p.secrets.length : Int) + p.temps) (h2 : v.cells.length = p.arrays.length) (h3 : InEnv (2 ^ p.width.toNat) v.vars v.cells) (h4 : ∀ i, i < v.cells.length → ((intsAt v.cells i).length : Int) = p.arrays.getD i 0) : envB p v = true := by
  simp only [envB, Bool.and_eq_true, decide_eq_true_eq, beq_iff_eq]
  have vals : ∀ (m : Int) (zs : List Int), (zs.length : Int) = m → (∀ z ∈ zs, 0 ≤ z ∧ z < ((2 ^ p.width.toNat : Nat) : Int)) → valB (2 ^ p.width.toNat) m zs = true := fun m zs e hz => by
    simp only [valB, valsB, Bool.and_eq_true, decide_eq_true_eq, List.all_eq_true]
    exact ⟨e, hz⟩
  refine ⟨⟨h, vals _ _ h1 h3.1⟩, h2, ?_⟩
  simp only [cellsB, List.all_eq_true, List.mem_range]
  exact fun i hi => vals _ _ (h4 i hi) (getD_cells h3.2 i)
theorem StaOk.setV {p : Prg} {q : Sta} (h : StaOk p q) (n : Int) {z : Nat} (hz : z < 2 ^ p.width.toNat) : StaOk p (setV q n z) := by
  obtain ⟨e1, e2, e3, e4, e5⟩ := envB_ok h.env
  refine ⟨envB_of e1 (by simpa [envOf, Go.Proofs.YtmooecbdpfhnlaaGreat.setV] using e2) e3 ⟨fun x hx => ?_, e4.2⟩ e5, h.outs⟩
  rcases List.mem_or_eq_of_mem_set hx with h' | h'
  · exact e4.1 x h'
  · rw [h']; exact ⟨by omega, by omega⟩
theorem StaOk.putC {p : Prg} {q : Sta} (h : StaOk p q) (n : Int) {i z : Nat} (hn : n.toNat < q.cells.length) (hz : z < 2 ^ p.width.toNat) : StaOk p (putC q n i z) := by
  obtain ⟨e1, e2, e3, e4, e5⟩ := envB_ok h.env
  refine ⟨envB_of e1 e2 (by simpa [envOf, Go.Proofs.YtmooecbdpfhnlaaGreat.putC] using e3) ⟨e4.1, fun cs hcs x hx => ?_⟩ (fun j hj => ?_), h.outs⟩
  · rcases List.mem_or_eq_of_mem_set hcs with h' | h'
    · exact e4.2 cs h' x hx
    · rw [h'] at hx
      rcases List.mem_or_eq_of_mem_set hx with h' | h'
      · exact getD_cells e4.2 n.toNat x h'
      · rw [h']; exact ⟨by omega, by omega⟩
  · have hj' : j < q.cells.length := by simpa [envOf, Go.Proofs.YtmooecbdpfhnlaaGreat.putC] using hj
    have := e5 j hj'
    by_cases hjn : j = n.toNat
    · subst hjn
      rw [← this]
      show (((q.cells.set n.toNat _).getD n.toNat []).length : Int) = _
      rw [List.getD_eq_getElem?_getD, List.getElem?_set_self hn]
      simp [envOf]
    · rw [← this]
      show (((q.cells.set n.toNat _).getD j []).length : Int) = _
      rw [List.getD_eq_getElem?_getD, List.getElem?_set_ne (by omega), intsAt, List.getD_eq_getElem?_getD]
      rfl
theorem StaOk.outV {p : Prg} {q : Sta} (h : StaOk p q) {z : Nat} (hz : z < 2 ^ p.width.toNat) : StaOk p (outV q z) := by
  refine ⟨h.env, fun x hx => ?_⟩
  rcases List.mem_append.1 hx with h' | h'
  · exact h.outs x h'
  · rw [List.mem_singleton] at h'; rw [h']; exact ⟨by omega, by omega⟩
theorem Basic.ok {p : Prg} {s : Stm} {q q' : Sta} {r : Rz} (h : Basic (2 ^ p.width.toNat) s q q' r) (hg : goodS p s) (hq : StaOk p q) : StaOk p q' := by
  cases h with
  | set h ht => exact hq.setV _ (vl_lt hq (goodS_exp hg (.inl h)).1)
  | put h ha ht hl => exact hq.putC _ (goodS_put hg hq h).2 (vl_lt hq (goodS_exp hg (.inr (.inl h))).1)
  | out h ht => exact hq.outV (vl_lt hq (goodS_exp hg (.inr (.inr (.inr h)))).1)
  | _ => exact hq
theorem Runs.ok {p : Prg} {ss : List Stm} {m : Mode} {i j s : Nat} {q q' : Sta} {r : Rz} (h : Runs (2 ^ p.width.toNat) ss m i j s q q' r) (hg : ∀ i, i < ss.length → goodS p (stAt ss i)) : StaOk p q → StaOk p q' := by
  induction h with
  | plain hi _ _ _ h => exact h.ok (hg _ hi)
  | nil | zero | ifT | if0 => exact id
  | go _ _ ih1 ih2 => exact fun hq => ih2 (ih1 hq)
  | again _ _ ih1 ih2 => exact fun hq => ih2 (ih1 hq)
  | catch_ _ _ _ _ _ ih1 ih2 => exact fun hq => ih2 (ih1 hq)
  | _ => assumption
theorem good_seg {p : Prg} {ss : List Stm} {lo hi : Nat} (h1 : lo ≤ hi) (h2 : hi ≤ ss.length) (hg : ∀ i, i < ss.length → goodS p (stAt ss i)) : ∀ i, i < (seg ss lo hi).length → goodS p (stAt (seg ss lo hi) i) := fun i hi' => by
  rw [seg_len h1 h2] at hi'
  rw [seg_at (by omega)]
  exact hg _ (by omega)
/-- A right program's statements, and its steps. -/
theorem code_good {p : Prg} (h : codeB p = 0) : (∀ i, i < p.body.length → goodS p (stAt p.body i)) ∧ ∃ s, s ≤ 400 ∧ Steps p.body 0 p.body.length s := by
  unfold codeB at h
  split at h
  · exact absurd h (by decide)
  split at h
  · exact absurd h (by decide)
  split at h
  · exact absurd h (by decide)
  split at h
  · exact absurd h (by decide)
  rename_i h4
  have hs : stmtsB p = true := by simpa using h4
  split at h
  · exact absurd h (by decide)
  rename_i h5
  have hb : blockOf p.body 0 = (p.body.length : Int) := by omega
  split at h
  · exact absurd h (by decide)
  rename_i h6
  refine ⟨fun i hi => List.all_eq_true.1 hs _ (stAt_mem hi), stepsN p.body, by omega, stepsN_spec (part_steps (loops_ok hs) _ 0 _ (Nat.le_refl _) (Nat.zero_le _) hb)⟩
end Go.Proofs.YtmooecbdpfhnlaaGreat
/- Slices of Outcomes: what they read as; the call's own; 'append' to them. -/
namespace Go.Proofs.YtmooecbdpfhnlaaGreat
open Go.RowKit

/-- An outcome: what is put out, how it ends. -/
abbrev Oc := List Int × Rz
def noO : Oc := ([], (0, 0))
def noR : OcR := ⟨(none, 0, 0), 0, 0⟩
def orowV (r : OcR) : List Value := [slV r.vals, .int .i64 r.en, .int .i64 r.co]
def flatO (rs : List OcR) : List Value := rs.flatMap orowV
def rAt (rs : List OcR) (i : Nat) : OcR := rs.getD i noR
def oAt (os : List Oc) (i : Nat) : Oc := os.getD i noO
theorem flatO_len (rs : List OcR) : (flatO rs).length = rs.length * 3 := by
  induction rs with
  | nil => rfl
  | cons t r ih => simp only [flatO, List.flatMap_cons, List.length_append] at ih ⊢; simp only [orowV, List.length_cons, List.length_nil] at ih ⊢; omega
theorem flatO_append (a b : List OcR) : flatO (a ++ b) = flatO a ++ flatO b := by simp [flatO]
theorem flatO_at : ∀ (rs : List OcR) (k j : Nat), k < rs.length → j < 3 → (flatO rs)[k * 3 + j]? = (orowV (rAt rs k))[j]?
  | [], k, _, h, _ => absurd h (by simp)
  | t :: r, 0, j, _, hj => by
    show (orowV t ++ flatO r)[0 * 3 + j]? = (orowV t)[j]?
    rw [List.getElem?_append_left (by simp [orowV]; omega), Nat.zero_mul, Nat.zero_add]
  | t :: r, k + 1, j, h, hj => by
    have ih := flatO_at r k j (by simpa using h) hj
    show (orowV t ++ flatO r)[(k + 1) * 3 + j]? = (orowV (rAt r k))[j]?
    rw [List.getElem?_append_right (by simp [orowV]; omega), ← ih]
    congr 1
    simp [orowV]; omega
theorem flatO_one (us : List OcR) : ∀ u ∈ flatO us, u.oneCell' = true := by
  intro u hu
  obtain ⟨r, _, hr⟩ := List.mem_flatMap.1 hu
  simp only [orowV, List.mem_cons, List.not_mem_nil, or_false] at hr
  rcases hr with rfl | rfl | rfl <;> rfl
theorem rAt_left {a b : List OcR} {k : Nat} (h : k < a.length) : rAt (a ++ b) k = rAt a k := by simp [rAt, List.getD_eq_getElem?_getD, List.getElem?_append_left h]
theorem rAt_right {a b : List OcR} {k : Nat} (h : a.length ≤ k) : rAt (a ++ b) k = rAt b (k - a.length) := by simp [rAt, List.getD_eq_getElem?_getD, List.getElem?_append_right h]
theorem oAt_left {a b : List Oc} {k : Nat} (h : k < a.length) : oAt (a ++ b) k = oAt a k := by simp [oAt, List.getD_eq_getElem?_getD, List.getElem?_append_left h]
theorem oAt_right {a b : List Oc} {k : Nat} (h : a.length ≤ k) : oAt (a ++ b) k = oAt b (k - a.length) := by simp [oAt, List.getD_eq_getElem?_getD, List.getElem?_append_right h]
theorem oAt_mem {os : List Oc} {k : Nat} (h : k < os.length) : oAt os k ∈ os := by
  simp [oAt, List.getD_eq_getElem?_getD, List.getElem?_eq_getElem h]

/-- The cells r read as the outcome o; its numbers lie in a row of their own, from block E on. -/
def OcOf (w : World) (E : Nat) (r : OcR) (o : Oc) : Prop := r.en = o.2.1 ∧ r.co = o.2.2 ∧ In64 r.en ∧ In64 r.co ∧ Own w E r.vals.1 r.vals.2.1 r.vals.2.2 o.1
/-- A slice of Outcomes of the call's own, from block B on; their numbers' rows lie from E on. -/
def OwnO (w : World) (B E : Nat) (a : Option Addr) (n c : Nat) (rs : List OcR) (os : List Oc) : Prop :=
  w.ownsRow B 43 3 (.slice a n c) n (flatO rs) ∧ n ≤ 1048576 ∧ os.length = n ∧ ∀ i, i < n → OcOf w E (rAt rs i) (oAt os i)
/-- No two of the rows lie in one block. -/
def ApartO (rs : List OcR) : Prop := ∀ i j g, i < rs.length → j < rs.length → (slV (rAt rs i).vals).ownBlock = some g → (slV (rAt rs j).vals).ownBlock = some g → i = j
section
variable {w w' : World} {B E : Nat} {r : OcR} {o : Oc} {a : Option Addr} {n c : Nat} {rs : List OcR} {os : List Oc}
theorem OcOf.below (h : OcOf w E r o) (hb : Below w.heap.size w w') : OcOf w' E r o := ⟨h.1, h.2.1, h.2.2.1, h.2.2.2.1, h.2.2.2.2.below hb⟩
theorem OcOf.base {E' : Nat} (h : OcOf w E r o) (hE : E' ≤ E) : OcOf w E' r o := ⟨h.1, h.2.1, h.2.2.1, h.2.2.2.1, h.2.2.2.2.base hE⟩
theorem OwnO.len (h : OwnO w B E a n c rs os) : rs.length = n := by have := h.1.1; rw [flatO_len] at this; omega
theorem OwnO.below (h : OwnO w B E a n c rs os) (hb : Below w.heap.size w w') : OwnO w' B E a n c rs os :=
  ⟨h.1.kept (row := none) ⟨hb.os, hb.tape, hb.output, hb.size, fun k hk _ => hb.block k hk⟩ (by cases a <;> simp [Value.ownBlock]), h.2.1, h.2.2.1, fun i hi => (h.2.2.2 i hi).below hb⟩
theorem OwnO.alloc (h : OwnO w B E a n c rs os) (ob : Obj) : OwnO (w.alloc ob) B E a n c rs os := h.below ((Below.refl _ _).alloc (Nat.le_refl _) ob)
theorem OwnO.base {B' : Nat} (h : OwnO w B E a n c rs os) (hB : B' ≤ B) : OwnO w B' E a n c rs os := by
  refine ⟨⟨h.1.1, ?_⟩, h.2.1, h.2.2.1, h.2.2.2⟩
  rcases h.1.2 with hn | ⟨g, cap, cur, e, hb, r⟩
  · exact .inl hn
  · exact .inr ⟨g, cap, cur, e, by omega, r⟩
theorem OwnO.ebase {E' : Nat} (h : OwnO w B E a n c rs os) (hE : E' ≤ E) : OwnO w B E' a n c rs os := ⟨h.1, h.2.1, h.2.2.1, fun i hi => (h.2.2.2 i hi).base hE⟩
theorem OwnO.block (h : OwnO w B E a n c rs os) : ∀ g, (Value.slice a n c).ownBlock = some g → B ≤ g ∧ g < w.heap.size := h.1.lt
theorem OwnO.cap (h : OwnO w B E a n c rs os) : n ≤ c := by
  rcases h.1.2 with ⟨e1, h0⟩ | ⟨g, cap, cur, e1, hb, hg, hnc, _⟩
  · injection e1 with _ e2 e3; omega
  · injection e1 with _ e2 e3; omega
/-- One of them. -/
theorem OwnO.at_ (h : OwnO w B E a n c rs os) {k : Nat} (hk : k < n) : ∃ g v m d en co, a = some ⟨g, 0, none⟩ ∧ g < w.heap.size ∧ Hid (rAt rs k = ⟨(v, m, d), en, co⟩) ∧ w.cell? ⟨g, k * 3, none⟩ = some (.slice v m d) ∧ w.cell? ⟨g, k * 3 + 1, none⟩ = some (.int .i64 en) ∧ w.cell? ⟨g, k * 3 + 2, none⟩ = some (.int .i64 co) ∧ Hid (OcOf w E ⟨(v, m, d), en, co⟩ (oAt os k)) := by
  have hlen := h.len
  obtain ⟨ho, _, _, hi⟩ := h
  rcases ho.2 with ⟨_, h0⟩ | ⟨g, cap, cur, e, _, hh, _⟩
  · omega
  · have ea : a = some ⟨g, 0, none⟩ := by injection e
    subst ea
    have e0 := flatO_at rs k 0 (by omega) (by omega)
    have e1 := flatO_at rs k 1 (by omega) (by omega)
    have e2 := flatO_at rs k 2 (by omega) (by omega)
    have hO := hi k hk
    obtain ⟨R, hR⟩ : ∃ R, rAt rs k = R := ⟨_, rfl⟩
    rw [hR] at e0 e1 e2 hO
    obtain ⟨⟨v, m, d⟩, en, co⟩ := R
    rw [Nat.add_zero] at e0
    refine ⟨g, v, m, d, en, co, rfl, (ho.lt g rfl).2, hR, ?_, ?_, ?_, hO⟩
    · rw [ho.cellAt (k * 3) (by omega)]; exact e0
    · rw [ho.cellAt (k * 3 + 1) (by omega)]; exact e1
    · rw [ho.cellAt (k * 3 + 2) (by omega)]; exact e2
/-- The row of Outcomes itself turns: their numbers lie elsewhere. -/
theorem kinds_apartO {E' g : Nat} {zs : List Int} {b : Option Addr} {m d : Nat} {xs : List Value} (h : Own w E' b m d zs) (hr : w.ownsRow B 43 3 (.slice a n c) n xs) (hg : (Value.slice a n c).ownBlock = some g) : (Value.slice b m d).ownBlock ≠ some g := by
  intro e
  obtain ⟨c1, f1, h1⟩ := Lib.ownsRow_kind h.1 g e
  obtain ⟨c2, f2, h2⟩ := Lib.ownsRow_kind hr g hg
  rw [h1] at h2
  injection h2 with h2
  injection h2 with _ h2 _
  exact absurd h2 (by decide)
theorem own_rowGrewO {E' : Nat} {zs : List Int} {b : Option Addr} {m d : Nat} {xs : List Value} (h : Own w E' b m d zs) (hr : w.ownsRow B 43 3 (.slice a n c) n xs) (hg : w.grownBy w' (Value.slice a n c).ownBlock) : Own w' E' b m d zs :=
  h.keep hg (fun _ e e' => kinds_apartO h hr e' e)
theorem OcOf.rowGrew {xs : List Value} (h : OcOf w E r o) (hr : w.ownsRow B 43 3 (.slice a n c) n xs) (hg : w.grownBy w' (Value.slice a n c).ownBlock) : OcOf w' E r o :=
  ⟨h.1, h.2.1, h.2.2.1, h.2.2.2.1, own_rowGrewO h.2.2.2.2 hr hg⟩
theorem OwnO.snoc {a1 : Option Addr} {c1 : Nat} (h : OwnO w B E a n c rs os) (hr : OcOf w E r o) (hn : n < 1048576) (h1 : w'.ownsRow B 43 3 (.slice a1 (n + 1) c1) (n + 1) (flatO rs ++ orowV r)) (hg : w.grownBy w' (Value.slice a n c).ownBlock) : OwnO w' B E a1 (n + 1) c1 (rs ++ [r]) (os ++ [o]) := by
  have hlr := h.len
  have hls := h.2.2.1
  refine ⟨by rw [flatO_append]; simpa [flatO] using h1, by omega, by simp [hls], fun i hi => ?_⟩
  rcases Nat.lt_or_ge i n with hlt | hge
  · rw [rAt_left (by omega), oAt_left (by omega)]
    exact (h.2.2.2 i hlt).rowGrew h.1 hg
  · obtain rfl : i = n := by omega
    rw [rAt_right (by omega), oAt_right (by omega), hlr, hls, Nat.sub_self]
    exact hr.rowGrew h.1 hg
end
theorem info_oc : (Tryz.prog.info? 43).map (fun i => (i.zero, i.size, i.bytes)) = some (some (.agg #[.slice none 0 0, .int .i64 0, .int .i64 0]), 3, 40) := by kernel_rfl
theorem ownO_nil (w : World) (B E : Nat) : OwnO w B E none 0 0 [] [] := ⟨World.ownsRow_nil _ _ _ _, by omega, rfl, fun i hi => absurd hi (by omega)⟩
theorem apartO_nil : ApartO [] := fun i _ _ hi => absurd hi (by simp)
theorem ApartO.snoc {rs : List OcR} {r : OcR} (h : ApartO rs) (hr : ∀ i g, i < rs.length → (slV (rAt rs i).vals).ownBlock = some g → (slV r.vals).ownBlock ≠ some g) : ApartO (rs ++ [r]) := by
  intro i j g hi hj h1 h2
  rw [List.length_append, List.length_singleton] at hi hj
  rcases Nat.lt_or_ge i rs.length with hi' | hi' <;> rcases Nat.lt_or_ge j rs.length with hj' | hj'
  · rw [rAt_left hi'] at h1
    rw [rAt_left hj'] at h2
    exact h i j g hi' hj' h1 h2
  · rw [rAt_left hi'] at h1
    rw [rAt_right hj', show j - rs.length = 0 by omega] at h2
    exact absurd h2 (hr i g hi' h1)
  · rw [rAt_left hj'] at h2
    rw [rAt_right hi', show i - rs.length = 0 by omega] at h1
    exact absurd h1 (hr j g hj' h2)
  · omega
theorem step_pushO {ops : Array Oper} {o : Oper} {ac : Act} {K : Act → World → Prop} {Q : Exit → Act → World → Prop} {X : Prop} (w : World) (hgd : o.guard = none) (s x : Operand)
    (ho : o.op = .call { callee := .builtin .append, args := #[s, x], argTypes := #[37, 37] })
    (B E : Nat) (a : Option Addr) (n c : Nat) (rs : List OcR) (os : List Oc) (hs : ac.eval s = .slice a n c) (hown : OwnO w B E a n c rs os)
    (g : Nat) (v : Option Addr) (m d : Nat) (en co : Int) (oc : Oc) (hx : ac.eval x = .slice (some ⟨g, 0, none⟩) 1 1) (hc0 : w.cell? ⟨g, 0, none⟩ = some (.slice v m d)) (hc1 : w.cell? ⟨g, 1, none⟩ = some (.int .i64 en)) (hc2 : w.cell? ⟨g, 2, none⟩ = some (.int .i64 co)) (hoc : OcOf w E ⟨(v, m, d), en, co⟩ oc) (hn : n < 1048576) (hB : B ≤ w.heap.size)
    (h : ∀ a1 c1 w', OwnO w' B E a1 (n + 1) c1 (rs ++ [⟨(v, m, d), en, co⟩]) (os ++ [oc]) → GrowsTo w (.slice a n c) w' (.slice a1 (n + 1) c1) → K (ac.put o.dst (.slice a1 (n + 1) c1)) w') :
    if Region.wanted o (yielded ops ac.tmps) = true then Oper.wp Tryz.prog o ac w K Q else X := by
  refine step_pushG w hgd s x 37 43 (.agg #[.slice none 0 0, .int .i64 0, .int .i64 0]) 3 40 ho Tryz.underlying37 info_oc rfl (by omega) B a n c (flatO rs) hs hown.1 ⟨g, 0, none⟩ 1 1 (orowV ⟨(v, m, d), en, co⟩) hx rfl ?_ ?_ (by omega) (by unfold maxLen; omega) (by omega) hB ?_
  · intro j u hj
    rw [addr_add]
    match j, hj with
    | 0, hj => simp [orowV, slV] at hj; subst hj; exact hc0
    | 1, hj => simp [orowV] at hj; subst hj; exact hc1
    | 2, hj => simp [orowV] at hj; subst hj; exact hc2
  · intro u hu
    exact flatO_one [⟨(v, m, d), en, co⟩] u (by simpa [flatO] using hu)
  · intro g1 c1 w' r1 r2
    exact h _ c1 w' (hown.snoc hoc hn r1 r2.1) r2
end Go.Proofs.YtmooecbdpfhnlaaGreat
/- The different ones of a list, each once, in the order in which they come; what is bound of an input; the most of them: plain mathematics. -/
namespace Go.Proofs.YtmooecbdpfhnlaaGreat
section
variable {α : Type} [DecidableEq α]
/-- One more, if it is new. -/
def addNew (acc : List α) (x : α) : List α := if x ∈ acc then acc else acc ++ [x]
/-- The different ones, in the order in which they come. -/
def diffL (l : List α) : List α := l.foldl addNew []
theorem diffL_snoc (l : List α) (x : α) : diffL (l ++ [x]) = addNew (diffL l) x := by simp [diffL, List.foldl_append]
theorem mem_addNew {acc : List α} {x y : α} : y ∈ addNew acc x ↔ y ∈ acc ∨ y = x := by
  unfold addNew
  split
  · constructor
    · exact .inl
    · rintro (h | rfl)
      · exact h
      · assumption
  · simp
theorem mem_diffL {x : α} : ∀ l : List α, x ∈ diffL l ↔ x ∈ l := by
  have key : ∀ (l acc : List α), x ∈ l.foldl addNew acc ↔ x ∈ acc ∨ x ∈ l := by
    intro l
    induction l with
    | nil => intro acc; simp
    | cons y l ih =>
      intro acc
      rw [List.foldl_cons, ih, mem_addNew, List.mem_cons]
      constructor
      · rintro ((h | h) | h)
        · exact .inl h
        · exact .inr (.inl h)
        · exact .inr (.inr h)
      · rintro (h | h | h)
        · exact .inl (.inl h)
        · exact .inl (.inr h)
        · exact .inr h
  intro l
  rw [diffL, key]
  simp
theorem addNew_nodup {acc : List α} {x : α} (h : acc.Nodup) : (addNew acc x).Nodup := by
  unfold addNew
  split
  · exact h
  · rename_i hx
    rw [List.nodup_append]
    refine ⟨h, by simp, fun a ha b hb => ?_⟩
    have : b = x := by simpa using hb
    subst this
    exact fun e => hx (e ▸ ha)
theorem diffL_nodup (l : List α) : (diffL l).Nodup := by
  have key : ∀ (l acc : List α), acc.Nodup → (l.foldl addNew acc).Nodup := by
    intro l
    induction l with
    | nil => exact fun _ h => h
    | cons y l ih => exact fun acc h => ih _ (addNew_nodup h)
  exact key l [] List.nodup_nil
theorem nodup_sub_len {l : List α} : ∀ {l' : List α}, l.Nodup → (∀ x ∈ l, x ∈ l') → l.length ≤ l'.length := by
  induction l with
  | nil => intros; simp
  | cons a l ih =>
    intro l' hn hs
    obtain ⟨h1, h2⟩ := List.nodup_cons.1 hn
    have ha := hs a (List.mem_cons_self)
    have := ih (l' := l'.erase a) h2 (fun x hx => (List.mem_erase_of_ne (fun e => h1 (by rw [← e]; exact hx))).2 (hs x (List.mem_cons_of_mem _ hx)))
    have hl := List.length_erase_of_mem ha
    have hp : 0 < l'.length := List.length_pos_of_mem ha
    simp only [List.length_cons]
    omega
theorem diffL_len (l : List α) : (diffL l).length ≤ l.length := nodup_sub_len (diffL_nodup l) (fun _ hx => (mem_diffL l).1 hx)
end
/-- What is bound of an input: nought where it is free. -/
def boundL : List Bool → List Int → List Int
  | b :: bs, z :: zs => (if b then 0 else z) :: boundL bs zs
  | [], zs => zs
  | _, [] => []
theorem boundL_len : ∀ (fs : List Bool) (zs : List Int), (boundL fs zs).length = zs.length
  | [], zs => by cases zs <;> rfl
  | b :: bs, [] => rfl
  | b :: bs, z :: zs => by rw [boundL, List.length_cons, boundL_len bs zs, List.length_cons]
theorem boundL_getD : ∀ (fs : List Bool) (zs : List Int) (i : Nat), (boundL fs zs).getD i 0 = if fs.getD i false then 0 else zs.getD i 0
  | [], zs, i => by cases zs <;> simp [boundL]
  | b :: bs, [], i => by simp [boundL]
  | b :: bs, z :: zs, 0 => by simp [boundL]
  | b :: bs, z :: zs, i + 1 => by
    have := boundL_getD bs zs i
    rw [boundL, List.getD_cons_succ, List.getD_cons_succ, List.getD_cons_succ]
    exact this
/-- Is an input like another one, but where it is free? (the model's own words) -/
def fitsB (L : Nat) (fr : List Bool) (a b : List Int) : Bool := (List.range a.length).all (fun i => decide (a.getD i 0 = b.getD i 0) || (decide (L ≤ i) && fr.getD (i - L) false))
theorem all_getD {L i : Nat} {fr : List Bool} : (List.replicate L false ++ fr).getD i false = (decide (L ≤ i) && fr.getD (i - L) false) := by
  by_cases h : i < L
  · rw [List.getD_eq_getElem?_getD, List.getElem?_append_left (by simpa using h), List.getElem?_replicate]
    simp [h]
    omega
  · rw [List.getD_eq_getElem?_getD, List.getElem?_append_right (by simp; omega)]
    simp [List.getD_eq_getElem?_getD, show L ≤ i by omega]
theorem ext_getD {a b : List Int} (hl : a.length = b.length) (h : ∀ i, i < a.length → a.getD i 0 = b.getD i 0) : a = b := by
  apply List.ext_getElem hl
  intro i h1 h2
  have := h i h1
  simpa [List.getD_eq_getElem?_getD, List.getElem?_eq_getElem h1, List.getElem?_eq_getElem h2] using this
/-- The most, over the first k. -/
def mostTo (f : Nat → Nat) : Nat → Nat
  | 0 => 0
  | k + 1 => max (mostTo f k) (f k)
end Go.Proofs.YtmooecbdpfhnlaaGreat
