/- Joined texts of this proof (SpecVal2, SpecVal3), in build order. -/
import Derived.Test.YtmppiefkeeanpaaJ15
import Derived.Test.YtmppiefkeeanpaaJ9
import Derived.Test.YtmppiefkeeanpaaJ10
import Derived.Deep.DeepCutAuto
import Derived.Deep.CutBlock
/- The contract of the model's l5Value: an expression's value and its first trap. -/
namespace Go.Proofs.Ytmppiefkeeanpaa
open Go.RowKit

def zl (st : List Nat) : List Int := st.map Int.ofNat
theorem zl_len (st : List Nat) : (zl st).length = st.length := by simp [zl]
theorem zl_getD (st : List Nat) (i : Nat) : (zl st).getD i 0 = ((st.getD i 0 : Nat) : Int) := by
  unfold zl
  rw [List.getD_eq_getElem?_getD, List.getD_eq_getElem?_getD, List.getElem?_map]
  cases st[i]? <;> rfl
theorem nats_at {w : World} {a : Option Addr} {n : Nat} {st : List Nat} (h : Ints w a n (zl st)) {k : Nat} (hk : k < n) : ∃ b o, ∃ z : Nat, a = some ⟨b, o, none⟩ ∧ b < w.heap.size ∧ Hid (st.getD k 0 = z) ∧ w.cell? ⟨b, o + k, none⟩ = some (.int .i64 (z : Int)) := by
  obtain ⟨b, o, z, e, hb, hz, _, hc⟩ := h.at_ hk
  exact ⟨b, o, st.getD k 0, e, hb, rfl, by rw [hc, hz.out, zl_getD]⟩
theorem stk_lt {W : Nat} (hW : 1 ≤ W) {V : List Int} {C : List (List Int)} (he : InEnv (2 ^ W) V C) {ts : List Tm} (ht : ∀ t ∈ ts, t.1 = 0 → t.2 < ((2 ^ W : Nat) : Int)) : ∀ k, k ≤ ts.length → ∀ x ∈ stkV (2 ^ W) V C (ts.take k), x < 2 ^ W := by
  intro k
  induction k with
  | zero => intro _ x hx; simp [stkV] at hx
  | succ k ih =>
    intro hk
    rw [stkV_succ _ _ _ _ _ (by omega)]
    exact stepV_lt hW he (ht _ (tmAt_mem (by omega))) (ih (by omega))
theorem ints_drop {w : World} {g o m q : Nat} {zs : List Int} (h : Ints w (some ⟨g, o, none⟩) (m + q) zs) : Ints w (some ⟨g, o + m, none⟩) q (zs.drop m) := by
  obtain ⟨hl, hn, hin, hc⟩ := h
  refine ⟨by rw [List.length_drop]; omega, by omega, fun z hz => hin z (List.mem_of_mem_drop hz), fun hp => ?_⟩
  obtain ⟨b, o', e, hb, hcell⟩ := hc (by omega)
  injection e with e
  injection e with e1 e2
  subst e1 e2
  refine ⟨g, o + m, rfl, hb, fun i hi => ?_⟩
  rw [Nat.add_assoc, hcell (m + i) (by omega)]
  simp [List.getD_eq_getElem?_getD, List.getElem?_drop]
theorem ints_alloc {w : World} {a : Option Addr} {n : Nat} {zs : List Int} (h : Ints w a n zs) (o : Obj) : Ints (w.alloc o) a n zs := h.below ((Below.refl _ _).alloc (Nat.le_refl _) _)
theorem in64_nat {x : Nat} (h : x < 256) : In64 (x : Int) := ⟨by omega, by omega⟩

/-- What a right expression, over an environment, allows. -/
structure Reck (S : Nat) (v : Envr) (ts : List Tm) : Prop where
  run : runD 0 ts = some 1
  long : ts.length ≤ 3000
  named : ∀ t ∈ ts, nameOk S v.vars.length v.cells.length t = true
  env : InEnv S v.vars v.cells
set_option maxRecDepth 20000 in
set_option maxHeartbeats 6400000 in
theorem l5Value_any (r : PRow) (W : Nat) (er : ERow) (v : Envr) (a : Option Addr) (n c : Nat) (ts : List Tm) (w : World) (hW : r.width = (W : Int)) (hW1 : 1 ≤ W) (hW8 : W ≤ 8) (he : EnvAt w er v) (ht : Terms w a n ts) (hk : Reck (2 ^ W) v ts) :
    Calls Try.prog 39 #[progV r, envV er, .slice a n c] w fun e w' => e = .returned (.tuple #[.int .i64 (((stkV (2 ^ W) v.vars v.cells ts).getD 0 0 : Nat) : Int), .int .i64 (trapV (2 ^ W) v.vars v.cells ts n)]) ∧ Below w.heap.size w w' := by
  have HS0 : Hid (∀ w' : World, Calls Try.prog 49 #[progV r] w' fun e w'' => e = .returned (.int .i64 ((2 ^ W : Nat) : Int)) ∧ Below w'.heap.size w' w'') := Lib.hid (fun w' => l3Size_any r W w' hW hW8)
  have HOP0 : Hid (∀ (op : Int) (x y : Nat) (w' : World), x < 2 ^ W → y < 2 ^ W → 3 ≤ op → op ≤ 16 → Calls Try.prog 68 #[.int .i64 ((2 ^ W : Nat) : Int), .int .i64 op, .int .i64 (x : Int), .int .i64 (y : Int)] w' fun e w'' => e = .returned (.int .i64 (opN (2 ^ W) op x y : Int)) ∧ Below w'.heap.size w' w'') := Lib.hid (fun op x y w' h1 h2 h3 h4 => (l5Op_any W x y op w' hW8 h1 h2 h3 h4).mono fun e w'' h => ⟨h.1, h.2 ▸ Below.refl _ _⟩)
  have HST := Lib.hid (stk_lt hW1 hk.env (ts := ts) (fun t hm h0 => by
    have := hk.named t hm
    unfold nameOk at this
    rw [if_pos h0] at this
    exact of_decide_eq_true this))
  have hS : 2 ^ W ≤ 2 ^ 8 := Nat.pow_le_pow_right (by omega) hW8
  have hS0 : 0 < 2 ^ W := Nat.pow_pos (by omega)
  have HK := Lib.hid hk
  obtain ⟨S, HS⟩ : ∃ S : Nat, Hid (2 ^ W = S) := ⟨_, Lib.hid rfl⟩
  simp only [HS.out] at hS hS0 HS0 HOP0 HST HK ⊢
  clear HS hW hW1 hW8 hk
  have HL := Lib.hid ht.1
  have hbd : n ≤ 3000 := by rw [← HL.out]; exact HK.out.long
  obtain ⟨wd, ⟨a1, n1, d1⟩, ⟨a2, n2, d2⟩, tp, ⟨a3, n3, d3⟩, ⟨a4, n4, d4⟩, rows⟩ := r
  obtain ⟨⟨b1, m1, e1⟩, ⟨b2, m2, e2⟩, rws⟩ := er
  have HEV := Lib.hid he.vars
  have HEC := Lib.hid he.cells
  simp only [] at HEV HEC
  have HLV := Lib.hid HEV.out.1
  have HLC := Lib.hid HEC.out.2.1
  show Calls Try.prog 39 #[.agg #[.int .i64 wd, .slice a1 n1 d1, .slice a2 n2 d2, .int .i64 tp, .slice a3 n3 d3, .slice a4 n4 d4], .agg #[.slice b1 m1 e1, .slice b2 m2 e2], .slice a n c] w _
  have HS1 : Hid (∀ w' : World, Calls Try.prog 49 #[.agg #[.int .i64 wd, .slice a1 n1 d1, .slice a2 n2 d2, .int .i64 tp, .slice a3 n3 d3, .slice a4 n4 d4]] w' fun e w'' => e = .returned (.int .i64 (S : Int)) ∧ Below w'.heap.size w' w'') := HS0
  clear HS0 he
  obtain ⟨V, HV⟩ : ∃ V, Hid (v.vars = V) := ⟨_, rfl⟩
  obtain ⟨C, HC⟩ : ∃ C, Hid (v.cells = C) := ⟨_, rfl⟩
  have HRUN := Lib.hid HK.out.run
  have HNM := Lib.hid HK.out.named
  have HIE := Lib.hid HK.out.env
  simp only [HV.out, HC.out] at HEV HEC HLV HLC HST HNM HIE ⊢
  simp only [HLV.out, HLC.out] at HNM
  clear HK HV HC
  obtain ⟨wa, HW⟩ : ∃ wa, Hid (wa = ((w.alloc (.cells #[.int .i64 wd, .slice a1 n1 d1, .slice a2 n2 d2, .int .i64 tp, .slice a3 n3 d3, .slice a4 n4 d4] 31)).alloc (.cells #[.slice b1 m1 e1, .slice b2 m2 e2] 35))) := ⟨_, rfl⟩
  have BX : VBox w wa [.int .i64 wd, .slice a1 n1 d1, .slice a2 n2 d2, .int .i64 tp, .slice a3 n3 d3, .slice a4 n4 d4] [.slice b1 m1 e1, .slice b2 m2 e2] := by rw [HW.out]; exact vbox_new w _ _
  obtain ⟨we, HWE⟩ : ∃ we, Hid (we = wa.alloc (.cells #[] 2)) := ⟨_, rfl⟩
  have hbe : Below wa.heap.size wa we := by rw [HWE.out]; exact (Below.refl _ _).alloc (Nat.le_refl _) _
  have hoe : Own we wa.heap.size (some ⟨wa.heap.size, 0, none⟩) 0 0 (zl []) := by rw [HWE.out]; exact own_empty wa _ (Nat.le_refl _)
  have B1 := BX.below hbe
  have g0 := B1.prg.cell (j := 0) rfl
  have g1 := B1.prg.cell (j := 1) rfl
  have g2 := B1.prg.cell (j := 2) rfl
  have g3 := B1.prg.cell (j := 3) rfl
  have g4 := B1.prg.cell (j := 4) rfl
  have g5 := B1.prg.cell (j := 5) rfl
  go_enter Try.func39, Try.ntmps39
  go_wp2_with (fail)
  rw [← HW.out, ← HWE.out]
  refine (HS1.out _).mono ?_
  rintro e wb ⟨rfl, hbb⟩
  have hoe := hoe.below hbb
  have hb0 := hbe.trans (hbb.mono hbe.size)
  have hsz : wa.heap.size = w.heap.size + 2 := by rw [HW.out]; simp
  have HSZ := Lib.hid hsz
  clear g0 g1 g2 g3 g4 g5 B1 hbe hbb HWE HW HS1 hsz
  have BB := BX.below hb0
  have HB0 := Lib.hid hb0
  clear hb0
  go_wp2
  go_loopw [8, 9, 11] (fun sv tv iv wr => ∃ (k m' c' : Nat) (a' : Option Addr), k ≤ n ∧ iv = .int .i64 (k : Int) ∧ sv = .slice a' m' c' ∧ tv = .int .i64 (trapV S V C ts k) ∧ Own wr wa.heap.size a' m' c' (zl (stkV S V C (ts.take k))) ∧ Below wa.heap.size wa wr) (fun _ _ iv _ => n - (intOf iv).toNat)
  case atStart => exact ⟨0, 0, 0, some ⟨w.heap.size + 1 + 1, 0, none⟩, Nat.zero_le _, rfl, rfl, rfl, by rw [show w.heap.size + 1 + 1 = wa.heap.size from HSZ.out.symm]; exact hoe, HB0.out⟩
  case round =>
    clear hoe BB HB0
    obtain ⟨k, mn, sc, sa, hk, rfl, rfl, rfl, hown, hbel⟩ := hrel
    have BR := BX.below hbel
    by_cases hlt : k < n
    · obtain ⟨b, o, x, y, rfl, hb, hz, hin1, hin2, hc1, hc2⟩ := ht.at_ hlt
      have HTM : Hid (∀ w', Below w.heap.size w w' → w'.cell? ⟨b, o + k * 2, none⟩ = some (.int .i64 x) ∧ w'.cell? ⟨b, o + k * 2 + 1, none⟩ = some (.int .i64 y) ∧ b < w'.heap.size) := Lib.hid (fun w' hbw => ⟨(hbw.cell hb).trans hc1, (hbw.cell hb).trans hc2, Nat.lt_of_lt_of_le hb hbw.size⟩)
      clear hb hc1 hc2
      have hkl : k < ts.length := by rw [HL.out]; exact hlt
      obtain ⟨d, hd, hdl⟩ := stkV_len S V C ts HRUN.out k (by omega)
      obtain ⟨ho, htk, _⟩ := runD_at HRUN.out hkl hd
      have hnm := HNM.out _ (tmAt_mem hkl)
      have HSS := Lib.hid (stkV_succ S V C ts k hkl)
      have HTS : Hid (trapV S V C ts (k + 1) = if trapV S V C ts k = 0 then badV S V C ts k else trapV S V C ts k) := Lib.hid rfl
      unfold badV at HTS
      have hsl := HST.out k (by omega)
      obtain ⟨st, Hst⟩ : ∃ st, Hid (stkV S V C (ts.take k) = st) := ⟨_, rfl⟩
      rw [hz.out] at ho htk hnm HSS HTS
      rw [Hst.out] at hown hdl HSS HTS hsl
      have hml := hown.len
      rw [zl_len] at hml
      have hmk : mn ≤ 3000 := by have := runD_le hd; have := List.length_take_le k ts; omega
      obtain ⟨q, HQ⟩ : ∃ q : Nat, Hid (takesI x = (q : Int)) := ⟨(takesI x).toNat, by
        show _ = _
        have := (tOkB_iff _).1 ho
        simp only [] at this
        omega⟩
      have hqm : q ≤ mn := by have := HQ.out; simp only [] at htk; omega
      obtain ⟨m, rfl⟩ : ∃ m, mn = m + q := ⟨mn - q, by omega⟩
      have HIN : Hid (innS st (x, y) = st.drop m) := Lib.hid (by unfold innS; simp only []; rw [HQ.out, hml, Int.toNat_natCast, Nat.add_sub_cancel])
      have HSS2 : Hid (stkV S V C (ts.take (k + 1)) = st.take m ++ [(valT S V C (x, y) (st.drop m)).1]) := Lib.hid (by rw [HSS.out, stepV, HIN.out]; simp only []; rw [HQ.out, hml, Int.toNat_natCast, Nat.add_sub_cancel])
      rw [HIN.out] at HTS
      obtain ⟨tk, Htk⟩ : ∃ tk, Hid (trapV S V C ts k = tk) := ⟨_, rfl⟩
      rw [Htk.out] at HTS ⊢
      have hq3 : q ≤ 3 := by have := HQ.out; have := takesI_range x; omega
      have hm3 : m + q ≤ 1048576 := hown.2.1
      have hoks := (tOkB_iff _).1 ho
      simp only [] at hoks
      obtain ⟨ho1, ho2, ho3, ho4⟩ := hoks
      obtain ⟨y, rfl⟩ := Int.eq_ofNat_of_zero_le ho2
      have HXR : Hid ((x = 0 ∨ x = 1) ∧ q = 0 ∨ x = 2 ∧ q = 1 ∨ (x = 3 ∨ x = 4) ∧ q = 1 ∨ x = 17 ∧ q = 3 ∨ (5 ≤ x ∧ x ≤ 16) ∧ q = 2) := Lib.hid (by
        have e := HQ.out
        unfold takesI at e ho1
        repeat' split at e
        all_goals (repeat' split at ho1)
        all_goals omega)
      clear hz ho htk HSS HIN hd hdl ho1 ho2 ho4 Hst Htk hin1 hin2
      have HLN := Lib.hid hml
      clear hml
      have ha : ∃ g, sa = some ⟨g, 0, none⟩ ∨ (sa = none ∧ m + q = 0) := by
        rcases hown.1.2 with ⟨e, h0⟩ | ⟨g, cap, cur, e, _⟩
        · injection e with e1 e2 e3
          exact ⟨0, .inr ⟨e1, h0⟩⟩
        · injection e with e1 e2 e3
          exact ⟨g, .inl e1⟩
      have hcap := hown.cap
      have tm1 := (HTM.out _ BR.bel).1
      go_wp2_with fail
      refine (specTakes_any _ _).mono ?_
      rintro e w1 ⟨rfl, hw1⟩
      rw [HQ.out]
      have hown := hown.below hw1
      have hbel := hbel.trans (hw1.mono hbel.size)
      have BR := BR.below hw1
      clear hw1 HQ tm1
      go_upto_region 8 with fail
      go_cut [13] (fun iv wx => ∃ (a5 : Option Addr) (c5 : Nat), iv = .slice a5 q c5 ∧ Own wx wa.heap.size sa m sc (zl (st.take m)) ∧ Ints wx a5 q (zl (st.drop m)) ∧ Below wa.heap.size wa wx)
      case first =>
        have hoc := hown.cut (k := m) (by omega)
        rw [show (zl st).take m = zl (st.take m) from (List.map_take).symm] at hoc
        by_cases hcc : m = sc
        · subst hcc
          obtain rfl : q = 0 := by omega
          have hdr : st.drop m = [] := List.drop_eq_nil_of_le (by have := HLN.out; omega)
          go_wp2_with (at_builtin; refine wpList_concat _ rfl _ _ rfl wa.heap.size _ _ _ [] rfl (own_empty _ _ hbel.size) _ 0 _ [] rfl ⟨rfl, by omega, fun z hz => by simp at hz, fun h => absurd h (by omega)⟩ (by omega) (by simp; exact Nat.le_succ_of_le hbel.size) ?_)
          intro a5 c5 w5 hown5 hg5
          have hbw := Lib.hid (below_push ((Below.refl w1.heap.size w1).alloc (Nat.le_refl _) _) (own_empty w1 _ (Nat.le_refl _)) (by simp) hg5)
          have HO5 := Lib.hid hown5
          clear hg5 hown5
          go_wp2
          go_meet
          exact ⟨a5, c5, rfl, hoc.below hbw.out, by rw [hdr]; exact HO5.out.ints, hbel.trans (hbw.out.mono hbel.size)⟩
        · obtain ⟨g, rfl⟩ : ∃ g, sa = some ⟨g, 0, none⟩ := by
            obtain ⟨g, hg | ⟨hn0, h0⟩⟩ := ha
            · exact ⟨g, hg⟩
            · exfalso
              rcases hown.1.2 with ⟨e, _⟩ | ⟨g', cap, cur, e, _⟩
              · injection e with e1 e2 e3
                omega
              · injection e with e1 e2 e3
                rw [hn0] at e1
                cases e1
          have hid := ints_drop hown.ints
          rw [show (zl st).drop m = zl (st.drop m) from (List.map_drop).symm] at hid
          go_wp2_with (at_builtin; refine wpList_concat _ rfl _ _ rfl wa.heap.size _ _ _ [] rfl (own_empty _ _ hbel.size) _ q _ (zl (st.drop m)) rfl (ints_alloc (by simpa using hid) _) (by omega) (by simp; exact Nat.le_succ_of_le hbel.size) ?_)
          intro a5 c5 w5 hown5 hg5
          have hbw := Lib.hid (below_push ((Below.refl w1.heap.size w1).alloc (Nat.le_refl _) _) (own_empty w1 _ (Nat.le_refl _)) (by simp) hg5)
          have HO5 := Lib.hid hown5
          clear hg5 hown5 hid
          go_wp2
          go_meet
          exact ⟨a5, c5, rfl, hoc.below hbw.out, by have := HO5.out.ints; simpa using this, hbel.trans (hbw.out.mono hbel.size)⟩
      case rest =>
        obtain ⟨a5, c5, rfl, hown5, hin5, hbel5⟩ := hcut
        clear hown hbel BR ha
        have BR := BX.below hbel5
        have hmc : m ≤ sc := by omega
        have tm1 := (HTM.out _ BR.bel).1
        go_upto_block 2 with fail
        go_cut [14, 15] (fun xv bv wx => ∃ (z : Nat) (bad : Int), xv = .int .i64 (z : Int) ∧ bv = .int .i64 bad ∧ Hid (valT S V C (x, (y : Int)) (st.drop m) = (z, bad)) ∧ Below wc.heap.size wc wx)
        case first =>
          have tm2 := (HTM.out _ BR.bel).2.1
          have tmb := (HTM.out _ BR.bel).2.2
          have f1 := lat_cell tmb tm1
          have f2 := lat_cell tmb tm2
          have k0 := lat_cell BR.env.lt (BR.env.cell (j := 0) rfl)
          have k1 := lat_cell BR.env.lt (BR.env.cell (j := 1) rfl)
          have hnmv : nameOk S m1 m2 (x, (y : Int)) = true := hnm
          have hxr := HXR.out
          clear hnm HXR HTM
          rcases hxr with ⟨h01, rfl⟩ | ⟨rfl, rfl⟩ | ⟨h34, rfl⟩ | ⟨rfl, rfl⟩ | ⟨h516, rfl⟩
          · rcases h01 with rfl | rfl
            · clear hnmv f1 f2 k0 k1
              go_wp2
              go_meet
              exact ⟨y, 0, rfl, rfl, Lib.hid (by simp [valT]), Below.refl _ _⟩
            · have hyl : y < m1 := by simpa [nameOk] using hnmv
              obtain ⟨b', o', z, rfl, hb', hz, hinz, hcz⟩ := (HEV.out.below BR.bel).at_ hyl
              have f3 := lat_cell hb' hcz
              have hzr := getD_in hS0 HIE.out.1 y
              rw [← hz.out] at hzr
              have HZ := Lib.hid hz.out
              obtain ⟨z, rfl⟩ := Int.eq_ofNat_of_zero_le hzr.1
              have HVT : Hid (valT S V C (1, (y : Int)) (st.drop m) = (z, 0)) := Lib.hid (by simp [valT]; rw [List.getD_eq_getElem?_getD] at HZ; have := HZ.out; omega)
              clear hzr hz HZ hinz hnmv
              go_wp2
              refine wp_region_lat (by kernel_rfl) (by kernel_rfl) ?_
              repeat (go_big_quiet_step (fail))
              refine wpQuiet_nil ?_
              intro _ hw'
              obtain ⟨⟨wq, hwq⟩, hw''⟩ := hw'
              subst hw''
              go_wp2
              go_meet
              exact ⟨z, 0, rfl, rfl, HVT, hwq⟩
          · have hyl : y < m2 := by simpa [nameOk] using hnmv
            obtain ⟨b', o', a6, n6, c6, rfl, hb', hy', hc6, hI6⟩ := (HEC.out.below BR.bel).at_ hyl
            obtain ⟨g5, o5, z0, rfl, hg5, hz0, hc5⟩ := nats_at hin5 (k := 0) (by omega)
            have f3 := lat_cell hb' hc6
            have f4 := lat_cell hg5 hc5
            rw [Nat.add_zero] at f4
            have hl6 := hI6.1
            have HL6 := Lib.hid hl6
            have hn6 := hI6.2.1
            by_cases hin : z0 < n6
            · obtain ⟨b7, o7, z, rfl, hb7, hz7, _, hc7⟩ := hI6.at_ hin
              have f5 := lat_cell hb7 hc7
              have hzr := getD_in hS0 (getD_cells HIE.out.2 y) z0
              have HZ : Hid (z = (C.getD y []).getD z0 0) := Lib.hid hz7.out
              rw [← HZ.out] at hzr
              obtain ⟨z, rfl⟩ := Int.eq_ofNat_of_zero_le hzr.1
              have HVT : Hid (valT S V C (2, (y : Int)) (st.drop m) = (z, 0)) := Lib.hid (by
                have e1 := HZ.out
                have e2 : (C.getD y []).length = n6 := HL6.out
                unfold valT
                simp only [Int.toNat_natCast]
                rw [if_neg (by decide), if_neg (by decide), if_pos (by trivial), hz0.out, if_pos (by rw [e2]; exact hin), ← e1]
                rfl)
              have hd : decide ((z0 : Int) < (n6 : Int)) = true := by simp; omega
              have HF := Lib.hid (And.intro (And.intro tmb tm2) (And.intro (And.intro hb' hc6) (And.intro (And.intro hg5 hc5) (And.intro hb7 hc7))))
              clear hzr hz7 HZ hnmv hl6 hI6 hc6 hc5 hc7
              go_wp2
              refine wp_region_lat (by kernel_rfl) (by kernel_rfl) ?_
              repeat (go_big_quiet_step (fail))
              refine wpQuiet_nil ?_
              intro _ hw'
              obtain ⟨⟨wq, hwq⟩, hw''⟩ := hw'
              subst hw''
              have BR3 := BR.below hwq
              clear f1 f2 f3 f4 f5 k0 k1
              have f2 := lat_cell (Nat.lt_of_lt_of_le HF.out.1.1 hwq.size) ((hwq.cell HF.out.1.1).trans HF.out.1.2)
              have f3 := lat_cell (Nat.lt_of_lt_of_le HF.out.2.1.1 hwq.size) ((hwq.cell HF.out.2.1.1).trans HF.out.2.1.2)
              have f4 := lat_cell (Nat.lt_of_lt_of_le HF.out.2.2.1.1 hwq.size) ((hwq.cell HF.out.2.2.1.1).trans HF.out.2.2.1.2)
              rw [Nat.add_zero] at f4
              have f5 := lat_cell (Nat.lt_of_lt_of_le HF.out.2.2.2.1 hwq.size) ((hwq.cell HF.out.2.2.2.1).trans HF.out.2.2.2.2)
              have k1 := lat_cell BR3.env.lt (BR3.env.cell (j := 1) rfl)
              go_wp2
              refine wp_region_lat (by kernel_rfl) (by kernel_rfl) ?_
              repeat (go_big_quiet_step (fail))
              refine wpQuiet_nil ?_
              intro _ hw'
              obtain ⟨⟨wq3, hwq2⟩, hw''⟩ := hw'
              subst hw''
              go_wp2
              go_meet
              exact ⟨z, 0, rfl, rfl, HVT, hwq.trans (hwq2.mono hwq.size)⟩
            · have HVT : Hid (valT S V C (2, (y : Int)) (st.drop m) = (0, 2)) := Lib.hid (by
                have e2 : (C.getD y []).length = n6 := HL6.out
                unfold valT
                simp only [Int.toNat_natCast]
                rw [if_neg (by decide), if_neg (by decide), if_pos (by trivial), hz0.out, if_neg (by rw [e2]; exact hin)])
              have hd : decide ((z0 : Int) < (n6 : Int)) = false := by simp; omega
              clear hnmv hl6 hI6 hc6 hc5
              go_wp2
              refine wp_region_lat (by kernel_rfl) (by kernel_rfl) ?_
              repeat (go_big_quiet_step (fail))
              refine wpQuiet_nil ?_
              intro _ hw'
              obtain ⟨⟨wq, hwq⟩, hw''⟩ := hw'
              subst hw''
              go_wp2
              go_meet
              exact ⟨0, 2, rfl, rfl, HVT, hwq⟩
          · obtain ⟨g5, o5, z0, rfl, hg5, hz0, hc5⟩ := nats_at hin5 (k := 0) (by omega)
            have f4 := lat_cell hg5 hc5
            rw [Nat.add_zero] at f4
            have hzl : z0 < S := by rw [← hz0.out]; exact getD_nat hS0 (fun x hx => hsl x (List.mem_of_mem_drop hx)) 0
            have HVT : Hid (valT S V C (x, (y : Int)) (st.drop m) = (opN S x z0 0, 0)) := Lib.hid (by
              unfold valT
              simp only []
              rw [if_neg (by omega), if_neg (by omega), if_neg (by omega), if_neg (by omega), if_pos h34, hz0.out])
            have HOP : Hid (∀ p' : Lat wc, Calls Try.prog 68 #[.int .i64 (S : Int), .int .i64 x, .int .i64 (z0 : Int), .int .i64 0] p'.wd fun e w'' => e = .returned (.int .i64 (opN S x z0 0 : Int)) ∧ Below p'.wd.heap.size p'.wd w'') := Lib.hid (fun p' => HOP0.out x z0 0 _ hzl hS0 (by omega) (by omega))
            clear hnmv hc5
            generalize opN S x z0 0 = R at HVT HOP
            rcases h34 with rfl | rfl
            · go_wp2
              refine wp_region_lat (by kernel_rfl) (by kernel_rfl) ?_
              repeat (go_big_quiet_step ((go_at_call 68; exact lat_calls (HOP.out _))))
              refine wpQuiet_nil ?_
              intro _ hw'
              obtain ⟨⟨wq, hwq⟩, hw''⟩ := hw'
              subst hw''
              go_wp2
              go_meet
              exact ⟨R, 0, rfl, rfl, HVT, hwq⟩
            · go_wp2
              refine wp_region_lat (by kernel_rfl) (by kernel_rfl) ?_
              repeat (go_big_quiet_step ((go_at_call 68; exact lat_calls (HOP.out _))))
              refine wpQuiet_nil ?_
              intro _ hw'
              obtain ⟨⟨wq, hwq⟩, hw''⟩ := hw'
              subst hw''
              go_wp2
              go_meet
              exact ⟨R, 0, rfl, rfl, HVT, hwq⟩
          · obtain ⟨g5, o5, z0, rfl, hg5, hz0, hc5⟩ := nats_at hin5 (k := 0) (by omega)
            obtain ⟨g6, o6, z1, e6, hg6, hz1, hc6⟩ := nats_at hin5 (k := 1) (by omega)
            obtain ⟨g7, o7, z2, e7, hg7, hz2, hc7⟩ := nats_at hin5 (k := 2) (by omega)
            injection e6 with e6
            injection e6 with e61 e62
            injection e7 with e7
            injection e7 with e71 e72
            subst e61 e62 e71 e72
            rw [Nat.add_zero] at hc5
            have HVT : Hid (valT S V C (17, (y : Int)) (st.drop m) = ((if z0 = 0 then z2 else z1), 0)) := Lib.hid (by
              unfold valT
              simp only []
              rw [if_neg (by decide), if_neg (by decide), if_neg (by decide), if_pos (by trivial), hz0.out, hz1.out, hz2.out])
            clear hnmv f1 f2 k0 k1 hin5
            by_cases hz00 : z0 = 0
            · subst hz00
              go_wp2
              go_meet
              exact ⟨z2, 0, rfl, rfl, HVT, Below.refl _ _⟩
            · have hne : ((z0 : Int) != 0) = true := by simp; omega
              rw [if_neg hz00] at HVT
              clear hz00
              go_wp2
              go_meet
              exact ⟨z1, 0, rfl, rfl, HVT, Below.refl _ _⟩
          · obtain ⟨g5, o5, z0, rfl, hg5, hz0, hc5⟩ := nats_at hin5 (k := 0) (by omega)
            obtain ⟨g6, o6, z1, e6, hg6, hz1, hc6⟩ := nats_at hin5 (k := 1) (by omega)
            injection e6 with e6
            injection e6 with e61 e62
            subst e61 e62
            rw [Nat.add_zero] at hc5
            have f4 := lat_cell hg5 hc5
            have f5 := lat_cell hg5 hc6
            have hzl : z0 < S := by rw [← hz0.out]; exact getD_nat hS0 (fun x hx => hsl x (List.mem_of_mem_drop hx)) 0
            have hzl1 : z1 < S := by rw [← hz1.out]; exact getD_nat hS0 (fun x hx => hsl x (List.mem_of_mem_drop hx)) 1
            have HVT : Hid (valT S V C (x, (y : Int)) (st.drop m) = (opN S x z0 z1, if z1 = 0 ∧ (x = 8 ∨ x = 9) then 1 else 0)) := Lib.hid (by
              unfold valT
              simp only []
              rw [if_neg (by omega), if_neg (by omega), if_neg (by omega), if_neg (by omega), if_neg (by omega), hz0.out, hz1.out])
            have HOP : Hid (∀ p' : Lat wc, Calls Try.prog 68 #[.int .i64 (S : Int), .int .i64 x, .int .i64 (z0 : Int), .int .i64 (z1 : Int)] p'.wd fun e w'' => e = .returned (.int .i64 (opN S x z0 z1 : Int)) ∧ Below p'.wd.heap.size p'.wd w'') := Lib.hid (fun p' => HOP0.out x z0 z1 _ hzl hzl1 (by omega) (by omega))
            clear hnmv hin5 k0 k1
            generalize opN S x z0 z1 = R at HVT HOP
            have j0 : (x == 0) = false := by simp; omega
            have j1 : (x == 1) = false := by simp; omega
            have j2 : (x == 2) = false := by simp; omega
            have j3 : (x == 3) = false := by simp; omega
            have j4 : (x == 4) = false := by simp; omega
            have j17 : (x == 17) = false := by simp; omega
            by_cases hz10 : z1 = 0
            · subst hz10
              by_cases h8 : x = 8
              · subst h8
                rw [if_pos ⟨rfl, .inl rfl⟩] at HVT
                clear h516
                go_wp2
                refine wp_region_lat (by kernel_rfl) (by kernel_rfl) ?_
                repeat (go_big_quiet_step ((go_at_call 68; exact lat_calls (HOP.out _))))
                refine wpQuiet_nil ?_
                intro _ hw'
                obtain ⟨⟨wq, hwq⟩, hw''⟩ := hw'
                subst hw''
                go_wp2
                go_meet
                exact ⟨R, 1, rfl, rfl, HVT, hwq⟩
              by_cases h9 : x = 9
              · subst h9
                rw [if_pos ⟨rfl, .inr rfl⟩] at HVT
                clear h516 h8
                go_wp2
                refine wp_region_lat (by kernel_rfl) (by kernel_rfl) ?_
                repeat (go_big_quiet_step ((go_at_call 68; exact lat_calls (HOP.out _))))
                refine wpQuiet_nil ?_
                intro _ hw'
                obtain ⟨⟨wq, hwq⟩, hw''⟩ := hw'
                subst hw''
                go_wp2
                go_meet
                exact ⟨R, 1, rfl, rfl, HVT, hwq⟩
              rw [if_neg (by omega)] at HVT
              have j8 : (x == 8) = false := by simpa using h8
              have j9 : (x == 9) = false := by simpa using h9
              clear h8 h9 h516
              go_wp2
              refine wp_region_lat (by kernel_rfl) (by kernel_rfl) ?_
              repeat (go_big_quiet_step ((go_at_call 68; exact lat_calls (HOP.out _))))
              refine wpQuiet_nil ?_
              intro _ hw'
              obtain ⟨⟨wq, hwq⟩, hw''⟩ := hw'
              subst hw''
              go_wp2
              go_meet
              exact ⟨R, 0, rfl, rfl, HVT, hwq⟩
            · have hne : ((z1 : Int) == 0) = false := by simp; omega
              rw [if_neg (by omega)] at HVT
              clear hz10 h516
              go_wp2
              refine wp_region_lat (by kernel_rfl) (by kernel_rfl) ?_
              repeat (go_big_quiet_step ((go_at_call 68; exact lat_calls (HOP.out _))))
              refine wpQuiet_nil ?_
              intro _ hw'
              obtain ⟨⟨wq, hwq⟩, hw''⟩ := hw'
              subst hw''
              go_wp2
              go_meet
              exact ⟨R, 0, rfl, rfl, HVT, hwq⟩
        case rest =>
          obtain ⟨z, bad, rfl, rfl, HVT, hbw⟩ := hcut
          have hown6 := hown5.below hbw
          have hbel6 := hbel5.trans (hbw.mono hbel5.size)
          have HSK : Hid (stkV S V C (ts.take (k + 1)) = st.take m ++ [z]) := Lib.hid (by rw [HSS2.out, HVT.out])
          have hzl : z < S := HST.out (k + 1) (by omega) z (by rw [HSK.out]; simp)
          have HTK : Hid (trapV S V C ts (k + 1) = if tk = 0 then bad else tk) := Lib.hid (by rw [HTS.out, HVT.out])
          clear hown5 hbel5 hin5 BR hbw HVT HTS HSS2 tm1 hnm HXR
          have hms : m < 1048576 := by omega
          by_cases ht0 : tk = 0
          · subst ht0
            rw [if_pos rfl] at HTK
            go_wp2_with (at_builtin; refine wpList_push _ rfl _ _ rfl wa.heap.size _ _ _ (zl (st.take m)) rfl (hown6.alloc _) wc.heap.size (z : Int) rfl (by simp) (in64_nat (by omega)) hms (by simp; exact Nat.le_succ_of_le hbel6.size) ?_)
            intro a8 c8 w8 hown8 hg8
            have hb8 := below_push (hbel6.alloc hbel6.size _) (hown6.alloc _) (by simp; exact Nat.le_succ_of_le hbel6.size) hg8
            have HO8 : Hid (Own w8 wa.heap.size a8 (m + 1) c8 (zl (stkV S V C (ts.take (k + 1))))) := Lib.hid (by rw [HSK.out]; unfold zl; rw [List.map_append]; exact hown8)
            clear hown8 hg8 hown6
            go_wp2
            go_roundw
            case rel => exact ⟨k + 1, m + 1, c8, a8, by omega, by go_num, rfl, by rw [HTK.out], HO8.out, hb8⟩
            case measure => simp [intOf]; omega
          · have hne : (tk == 0) = false := by simpa using ht0
            rw [if_neg ht0] at HTK
            clear ht0
            go_wp2_with (at_builtin; refine wpList_push _ rfl _ _ rfl wa.heap.size _ _ _ (zl (st.take m)) rfl (hown6.alloc _) wc.heap.size (z : Int) rfl (by simp) (in64_nat (by omega)) hms (by simp; exact Nat.le_succ_of_le hbel6.size) ?_)
            intro a8 c8 w8 hown8 hg8
            have hb8 := below_push (hbel6.alloc hbel6.size _) (hown6.alloc _) (by simp; exact Nat.le_succ_of_le hbel6.size) hg8
            have HO8 : Hid (Own w8 wa.heap.size a8 (m + 1) c8 (zl (stkV S V C (ts.take (k + 1))))) := Lib.hid (by rw [HSK.out]; unfold zl; rw [List.map_append]; exact hown8)
            clear hown8 hg8 hown6
            go_wp2
            go_roundw
            case rel => exact ⟨k + 1, m + 1, c8, a8, by omega, by go_num, rfl, by rw [HTK.out], HO8.out, hb8⟩
            case measure => simp [intOf]; omega
    · obtain rfl : n = k := by omega
      have hts : ts.take n = ts := List.take_of_length_le (by rw [HL.out]; exact Nat.le_refl _)
      rw [hts] at hown
      obtain ⟨d, hd, hdl⟩ := stkV_len S V C ts HRUN.out n (by rw [HL.out]; exact Nat.le_refl _)
      rw [hts, HRUN.out] at hd
      rw [hts] at hdl
      injection hd with hd
      have hml := hown.len
      rw [zl_len] at hml
      obtain rfl : mn = 1 := by omega
      obtain ⟨g5, o5, z0, rfl, hg5, hz0, hc5⟩ := nats_at hown.ints (k := 0) (by omega)
      rw [Nat.add_zero] at hc5
      have HB := Lib.hid BR.bel
      clear hd hdl hml hown
      go_wp2
      go_ret2
      rw [hz0.out]
      exact ⟨rfl, HB.out⟩
end Go.Proofs.Ytmppiefkeeanpaa
/- The contracts of the model's ValueIn and PlainIn. -/
namespace Go.Proofs.Ytmppiefkeeanpaa
open Go.RowKit

/-- May it be reckoned? -/
noncomputable def reckB (p : Prg) (v : Envr) (ts : List Tm) : Bool := envB p v && namesB (2 ^ p.width.toNat) (p.lows.length + p.secrets.length + p.temps.toNat) p.arrays.length ts
noncomputable def plainB (p : Prg) (v : Envr) (ts : List Tm) : Nat := if reckB p v ts = true then (stkV (2 ^ p.width.toNat) v.vars v.cells ts).getD 0 0 else 0
noncomputable def trapB (p : Prg) (v : Envr) (ts : List Tm) : Int := if reckB p v ts = true then trapV (2 ^ p.width.toNat) v.vars v.cells ts ts.length else 0
noncomputable def valueB (p : Prg) (v : Envr) (ts : List Tm) : Nat := if trapB p v ts = 0 then plainB p v ts else 0

theorem valB_ok {S : Nat} {m : Int} {zs : List Int} (h : valB S m zs = true) : (zs.length : Int) = m ∧ ∀ z ∈ zs, 0 ≤ z ∧ z < (S : Int) := by
  simp only [valB, valsB, Bool.and_eq_true, decide_eq_true_eq, List.all_eq_true] at h
  exact ⟨h.1, fun z hz => h.2 z hz⟩
theorem envB_ok {p : Prg} {v : Envr} (h : envB p v = true) : codeB p = 0 ∧ (v.vars.length : Int) = (p.lows.length : Int) + (p.secrets.length : Int) + p.temps ∧ v.cells.length = p.arrays.length ∧ InEnv (2 ^ p.width.toNat) v.vars v.cells ∧ ∀ i, i < v.cells.length → ((intsAt v.cells i).length : Int) = p.arrays.getD i 0 := by
  simp only [envB, Bool.and_eq_true, decide_eq_true_eq, beq_iff_eq] at h
  obtain ⟨⟨h1, h2⟩, h3, h4⟩ := h
  obtain ⟨h5, h6⟩ := valB_ok h2
  simp only [cellsB, List.all_eq_true, List.mem_range] at h4
  refine ⟨h1, h5, h3, ⟨h6, fun cs hcs z hz => ?_⟩, fun i hi => (valB_ok (h4 i hi)).1⟩
  obtain ⟨i, hi, rfl⟩ := List.getElem_of_mem hcs
  have := (valB_ok (h4 i hi)).2
  unfold intsAt at this
  rw [List.getD_eq_getElem?_getD, List.getElem?_eq_getElem hi] at this
  exact this z hz
theorem names_ok {S V A : Nat} {ts : List Tm} (h : namesB S V A ts = true) : ts.length ≤ 3000 ∧ runD 0 ts = some 1 ∧ ∀ t ∈ ts, nameOk S V A t = true := by
  simp only [namesB, Bool.and_eq_true, List.all_eq_true] at h
  have := (expB_iff ts).1 h.1
  exact ⟨this.1, this.2, h.2⟩
theorem env_vars {p : Prg} {v : Envr} (h : envB p v = true) : v.vars.length = p.lows.length + p.secrets.length + p.temps.toNat := by
  obtain ⟨h1, h2, _⟩ := envB_ok h
  have := (code_head h1).2.2.2.2.1
  omega

theorem reck_of {p : Prg} {v : Envr} {ts : List Tm} (h1 : envB p v = true) (h2 : namesB (2 ^ p.width.toNat) (p.lows.length + p.secrets.length + p.temps.toNat) p.arrays.length ts = true) : Reck (2 ^ p.width.toNat) v ts := by
  obtain ⟨_, _, e3, e4, _⟩ := envB_ok h1
  obtain ⟨n1, n2, n3⟩ := names_ok h2
  exact ⟨n2, n1, fun t ht => by rw [env_vars h1, e3]; exact n3 t ht, e4⟩
set_option maxRecDepth 20000 in
set_option maxHeartbeats 1600000 in
theorem specValueIn_any (r : PRow) (p : Prg) (er : ERow) (v : Envr) (a : Option Addr) (n c : Nat) (ts : List Tm) (w : World) (h : ProgAt w r p) (he : EnvAt w er v) (ht : Terms w a n ts) :
    Calls Try.prog 15 #[progV r, envV er, .slice a n c] w fun e w' => e = .returned (.tuple #[.int .i64 (valueB p v ts : Int), .int .i64 (trapB p v ts)]) ∧ Below w.heap.size w w' := by
  have HBAD : Hid (reckB p v ts = false → valueB p v ts = 0 ∧ trapB p v ts = 0) := Lib.hid (fun hR => by
    have e : trapB p v ts = 0 := by rw [trapB, hR, if_neg (by simp)]
    exact ⟨by rw [valueB, e, if_pos rfl, plainB, hR, if_neg (by simp)], e⟩)
  have HE0 : Hid (∀ w', Below w.heap.size w w' → Calls Try.prog 23 #[progV r, envV er] w' fun e w'' => e = .returned (.bool (envB p v)) ∧ Below w'.heap.size w' w'') := Lib.hid (fun w' hw => specEnvOk_any r p er v w' (h.below hw) (he.below hw))
  have HN0 : Hid (codeB p = 0 → ∀ w', Below w.heap.size w w' → Calls Try.prog 38 #[progV r, .slice a n c] w' fun e w'' => e = .returned (.bool (namesB (2 ^ p.width.toNat) (p.lows.length + p.secrets.length + p.temps.toNat) p.arrays.length ts)) ∧ Below w'.heap.size w' w'') := Lib.hid (fun hz w' hw => l3Names_any r _ _ _ _ a n c ts w' (code_lim h hz) (ht.below (Nat.le_refl _) hw))
  have HV0 : Hid (codeB p = 0 → Reck (2 ^ p.width.toNat) v ts → ∀ w', Below w.heap.size w w' → Calls Try.prog 39 #[progV r, envV er, .slice a n c] w' fun e w'' => e = .returned (.tuple #[.int .i64 (((stkV (2 ^ p.width.toNat) v.vars v.cells ts).getD 0 0 : Nat) : Int), .int .i64 (trapV (2 ^ p.width.toNat) v.vars v.cells ts n)]) ∧ Below w'.heap.size w' w'') := Lib.hid (fun hz hk w' hw => l5Value_any r _ er v a n c ts w' (code_lim h hz).width (by have := (code_head hz).1; omega) (code_lim h hz).small (he.below hw) (ht.below (Nat.le_refl _) hw) hk)
  have HL := Lib.hid ht.1
  clear h he ht
  obtain ⟨wd, ⟨a1, n1, d1⟩, ⟨a2, n2, d2⟩, tp, ⟨a3, n3, d3⟩, ⟨a4, n4, d4⟩, rows⟩ := r
  obtain ⟨⟨b1, m1, e1⟩, ⟨b2, m2, e2⟩, rws⟩ := er
  show Calls Try.prog 15 #[.agg #[.int .i64 wd, .slice a1 n1 d1, .slice a2 n2 d2, .int .i64 tp, .slice a3 n3 d3, .slice a4 n4 d4], .agg #[.slice b1 m1 e1, .slice b2 m2 e2], .slice a n c] w _
  simp only [progV, envV, slV] at HE0 HN0 HV0
  obtain ⟨wa, HW⟩ : ∃ wa, Hid (wa = ((w.alloc (.cells #[.int .i64 wd, .slice a1 n1 d1, .slice a2 n2 d2, .int .i64 tp, .slice a3 n3 d3, .slice a4 n4 d4] 31)).alloc (.cells #[.slice b1 m1 e1, .slice b2 m2 e2] 35))) := ⟨_, rfl⟩
  have BX : VBox w wa [.int .i64 wd, .slice a1 n1 d1, .slice a2 n2 d2, .int .i64 tp, .slice a3 n3 d3, .slice a4 n4 d4] [.slice b1 m1 e1, .slice b2 m2 e2] := by rw [HW.out]; exact vbox_new w _ _
  go_enter Try.func15, Try.ntmps15
  go_wp2_with fail
  rw [← HW.out]
  refine (HE0.out _ BX.bel).mono ?_
  rintro e w1 ⟨rfl, hb1⟩
  have B1 := BX.below hb1
  clear hb1 BX HW
  cases hE : envB p v with
  | false =>
    have hR : reckB p v ts = false := by rw [reckB, hE, Bool.false_and]
    go_wp2
    go_ret2
    rw [(HBAD.out hR).1, (HBAD.out hR).2]
    exact ⟨rfl, B1.bel⟩
  | true =>
  have hz := (envB_ok hE).1
  have g0 := B1.prg.cell (j := 0) rfl
  have g1 := B1.prg.cell (j := 1) rfl
  have g2 := B1.prg.cell (j := 2) rfl
  have g3 := B1.prg.cell (j := 3) rfl
  have g4 := B1.prg.cell (j := 4) rfl
  have g5 := B1.prg.cell (j := 5) rfl
  have HE := Lib.hid hE
  have HZ := Lib.hid hz
  clear hE hz
  go_wp2_with fail
  refine (HN0.out HZ.out _ B1.bel).mono ?_
  rintro e w2 ⟨rfl, hb2⟩
  have B2 := B1.below hb2
  clear hb2 B1 g0 g1 g2 g3 g4 g5
  cases hN : namesB (2 ^ p.width.toNat) (p.lows.length + p.secrets.length + p.temps.toNat) p.arrays.length ts with
  | false =>
    have hR : reckB p v ts = false := by rw [reckB, HE.out, hN, Bool.true_and]
    go_wp2
    go_ret2
    rw [(HBAD.out hR).1, (HBAD.out hR).2]
    exact ⟨rfl, B2.bel⟩
  | true =>
  have hR : reckB p v ts = true := by rw [reckB, HE.out, hN, Bool.true_and]
  have HK := Lib.hid (reck_of HE.out hN)
  have HR := Lib.hid hR
  clear hR hN
  have g0 := B2.prg.cell (j := 0) rfl
  have g1 := B2.prg.cell (j := 1) rfl
  have g2 := B2.prg.cell (j := 2) rfl
  have g3 := B2.prg.cell (j := 3) rfl
  have g4 := B2.prg.cell (j := 4) rfl
  have g5 := B2.prg.cell (j := 5) rfl
  have k0 := B2.env.cell (j := 0) rfl
  have k1 := B2.env.cell (j := 1) rfl
  go_wp2_with fail
  refine (HV0.out HZ.out HK.out _ B2.bel).mono ?_
  rintro e w3 ⟨rfl, hb3⟩
  have B3 := B2.below hb3
  clear hb3 B2 g0 g1 g2 g3 g4 g5 k0 k1
  have HP : Hid (plainB p v ts = (stkV (2 ^ p.width.toNat) v.vars v.cells ts).getD 0 0) := Lib.hid (by rw [plainB, HR.out, if_pos rfl])
  have HT : Hid (trapB p v ts = trapV (2 ^ p.width.toNat) v.vars v.cells ts n) := Lib.hid (by rw [trapB, HR.out, if_pos rfl, HL.out])
  rw [← HP.out, ← HT.out]
  clear HP HT HV0 HN0 HE0
  by_cases ht0 : trapB p v ts = 0
  · have hv : valueB p v ts = plainB p v ts := by rw [valueB, if_pos ht0]
    have HV := Lib.hid hv
    have HT0 := Lib.hid ht0
    rw [ht0]
    clear hv ht0
    go_wp2
    go_ret2
    rw [HV.out, HT0.out]
    exact ⟨rfl, B3.bel⟩
  · have hv : valueB p v ts = 0 := by rw [valueB, if_neg ht0]
    have HV := Lib.hid hv
    have hne : (trapB p v ts != 0) = true := by simpa using ht0
    clear hv ht0
    go_wp2
    go_ret2
    rw [HV.out]
    exact ⟨rfl, B3.bel⟩
set_option maxRecDepth 20000 in
set_option maxHeartbeats 1600000 in
theorem specPlainIn_any (r : PRow) (p : Prg) (er : ERow) (v : Envr) (a : Option Addr) (n c : Nat) (ts : List Tm) (w : World) (h : ProgAt w r p) (he : EnvAt w er v) (ht : Terms w a n ts) :
    Calls Try.prog 16 #[progV r, envV er, .slice a n c] w fun e w' => e = .returned (.int .i64 (plainB p v ts : Int)) ∧ Below w.heap.size w w' := by
  have HBAD : Hid (reckB p v ts = false → plainB p v ts = 0) := Lib.hid (fun hR => by rw [plainB, hR, if_neg (by simp)])
  have HE0 : Hid (∀ w', Below w.heap.size w w' → Calls Try.prog 23 #[progV r, envV er] w' fun e w'' => e = .returned (.bool (envB p v)) ∧ Below w'.heap.size w' w'') := Lib.hid (fun w' hw => specEnvOk_any r p er v w' (h.below hw) (he.below hw))
  have HN0 : Hid (codeB p = 0 → ∀ w', Below w.heap.size w w' → Calls Try.prog 38 #[progV r, .slice a n c] w' fun e w'' => e = .returned (.bool (namesB (2 ^ p.width.toNat) (p.lows.length + p.secrets.length + p.temps.toNat) p.arrays.length ts)) ∧ Below w'.heap.size w' w'') := Lib.hid (fun hz w' hw => l3Names_any r _ _ _ _ a n c ts w' (code_lim h hz) (ht.below (Nat.le_refl _) hw))
  have HV0 : Hid (codeB p = 0 → Reck (2 ^ p.width.toNat) v ts → ∀ w', Below w.heap.size w w' → Calls Try.prog 39 #[progV r, envV er, .slice a n c] w' fun e w'' => e = .returned (.tuple #[.int .i64 (((stkV (2 ^ p.width.toNat) v.vars v.cells ts).getD 0 0 : Nat) : Int), .int .i64 (trapV (2 ^ p.width.toNat) v.vars v.cells ts n)]) ∧ Below w'.heap.size w' w'') := Lib.hid (fun hz hk w' hw => l5Value_any r _ er v a n c ts w' (code_lim h hz).width (by have := (code_head hz).1; omega) (code_lim h hz).small (he.below hw) (ht.below (Nat.le_refl _) hw) hk)
  have HL := Lib.hid ht.1
  clear h he ht
  obtain ⟨wd, ⟨a1, n1, d1⟩, ⟨a2, n2, d2⟩, tp, ⟨a3, n3, d3⟩, ⟨a4, n4, d4⟩, rows⟩ := r
  obtain ⟨⟨b1, m1, e1⟩, ⟨b2, m2, e2⟩, rws⟩ := er
  show Calls Try.prog 16 #[.agg #[.int .i64 wd, .slice a1 n1 d1, .slice a2 n2 d2, .int .i64 tp, .slice a3 n3 d3, .slice a4 n4 d4], .agg #[.slice b1 m1 e1, .slice b2 m2 e2], .slice a n c] w _
  simp only [progV, envV, slV] at HE0 HN0 HV0
  obtain ⟨wa, HW⟩ : ∃ wa, Hid (wa = ((w.alloc (.cells #[.int .i64 wd, .slice a1 n1 d1, .slice a2 n2 d2, .int .i64 tp, .slice a3 n3 d3, .slice a4 n4 d4] 31)).alloc (.cells #[.slice b1 m1 e1, .slice b2 m2 e2] 35))) := ⟨_, rfl⟩
  have BX : VBox w wa [.int .i64 wd, .slice a1 n1 d1, .slice a2 n2 d2, .int .i64 tp, .slice a3 n3 d3, .slice a4 n4 d4] [.slice b1 m1 e1, .slice b2 m2 e2] := by rw [HW.out]; exact vbox_new w _ _
  go_enter Try.func16, Try.ntmps16
  go_wp2_with fail
  rw [← HW.out]
  refine (HE0.out _ BX.bel).mono ?_
  rintro e w1 ⟨rfl, hb1⟩
  have B1 := BX.below hb1
  clear hb1 BX HW
  cases hE : envB p v with
  | false =>
    have hR : reckB p v ts = false := by rw [reckB, hE, Bool.false_and]
    go_wp2
    go_ret
    rw [HBAD.out hR]
    exact ⟨rfl, B1.bel⟩
  | true =>
  have hz := (envB_ok hE).1
  have g0 := B1.prg.cell (j := 0) rfl
  have g1 := B1.prg.cell (j := 1) rfl
  have g2 := B1.prg.cell (j := 2) rfl
  have g3 := B1.prg.cell (j := 3) rfl
  have g4 := B1.prg.cell (j := 4) rfl
  have g5 := B1.prg.cell (j := 5) rfl
  have HE := Lib.hid hE
  have HZ := Lib.hid hz
  clear hE hz
  go_wp2_with fail
  refine (HN0.out HZ.out _ B1.bel).mono ?_
  rintro e w2 ⟨rfl, hb2⟩
  have B2 := B1.below hb2
  clear hb2 B1 g0 g1 g2 g3 g4 g5
  cases hN : namesB (2 ^ p.width.toNat) (p.lows.length + p.secrets.length + p.temps.toNat) p.arrays.length ts with
  | false =>
    have hR : reckB p v ts = false := by rw [reckB, HE.out, hN, Bool.true_and]
    go_wp2
    go_ret
    rw [HBAD.out hR]
    exact ⟨rfl, B2.bel⟩
  | true =>
  have hR : reckB p v ts = true := by rw [reckB, HE.out, hN, Bool.true_and]
  have HK := Lib.hid (reck_of HE.out hN)
  have HR := Lib.hid hR
  clear hR hN
  have g0 := B2.prg.cell (j := 0) rfl
  have g1 := B2.prg.cell (j := 1) rfl
  have g2 := B2.prg.cell (j := 2) rfl
  have g3 := B2.prg.cell (j := 3) rfl
  have g4 := B2.prg.cell (j := 4) rfl
  have g5 := B2.prg.cell (j := 5) rfl
  have k0 := B2.env.cell (j := 0) rfl
  have k1 := B2.env.cell (j := 1) rfl
  go_wp2_with fail
  refine (HV0.out HZ.out HK.out _ B2.bel).mono ?_
  rintro e w3 ⟨rfl, hb3⟩
  have B3 := B2.below hb3
  clear hb3 B2 g0 g1 g2 g3 g4 g5 k0 k1
  have HP : Hid (plainB p v ts = (stkV (2 ^ p.width.toNat) v.vars v.cells ts).getD 0 0) := Lib.hid (by rw [plainB, HR.out, if_pos rfl])
  rw [← HP.out]
  clear HP HV0 HN0 HE0
  go_wp2
  go_ret
  exact ⟨rfl, B3.bel⟩
end Go.Proofs.Ytmppiefkeeanpaa
