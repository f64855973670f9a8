/- For every code, of a drawn list of Terms: where it is an expression, it is its parts, one behind the other, and its last Term, and each part begins where FirstOf tells; where it is none there are no parts. Conditions: none beyond the given row. (The frame round the walk is the guide's own shell, by program.) -/
import Derived.Test.YtjfdmdemgnponaaRows
import Derived.Test.YtjfdmdemgnponaaPartsLaw
import Derived.WalkKit
import Derived.ProofKit
import Derived.OpenShut
import Derived.ShutString
import Derived.ChangeOld
import Derived.Below
namespace Go.Proofs.Ytjfdmdemgnponaa.fnParts
open Go.ChangeShapes Go.WideShapes Go.ChangeAt Go.RowKit
open Go.ChangeMaps (open_string shut_string)
set_option linter.unusedVariables false

theorem own : ownKnob Try.prog.godebug = none := by kernel_rfl
theorem laidOut : laidOutB Try.prog = true := by kernel_rfl

/-- WHAT THE WALK IS TOLD OF A SLICE OF INTEGERS THAT CAME IN: it is nil; or it leads to a row of 'cap' cells, the numbers 'zs' (the first 'len' are its elements, the rest its spare room), each fitting its kind. -/
def IsRow (k : IntKind) (w : World) (a : Option Addr) (len cap : Nat) (zs : List Int) : Prop :=
  (a = none ∧ len = 0 ∧ cap = 0 ∧ zs = []) ∨
  ∃ x, a = some x ∧ len ≤ cap ∧ cap ≤ maxLen ∧ zs.length = cap ∧ (∀ i, i < zs.length → w.cell? (x.add i) = some (.int k (zs.getD i 0))) ∧ ∀ n ∈ zs, (Lit.int k n).wf = true

/-! ### STEP 1: THE WALK: the Go text returns true, AND WRITES NOTHING THAT WAS THERE: 'Below w.heap.size w w'' (Derived/Below.lean: '.refl', '.alloc', '.drew', '.setCell' at a new block, '.trans'). Open each 'IsRow' by 'rcases' AHEAD of 'go_enter'; part every test ahead of the walk. -/
theorem walk (a0 : Option Addr) (len0 cap0 : Nat) (z0 : List Int) (w : World) (w0 : IsRow .u8 w a0 len0 cap0 z0) :
    Calls Try.prog 3 #[.slice a0 len0 cap0] w fun e w' => e = .returned (.bool true) ∧ Below w.heap.size w w' := by
  by_cases hbig : 4096 < len0
  · go_enter Try.func3, Try.ntmps3
    go_wp2_with (go_at_call 10; refine (big_any _ _ _ _).mono ?_; rintro e w1 ⟨rfl, rfl⟩; rw [decide_eq_true hbig])
    go_ret
    exact ⟨rfl, Below.refl _ _⟩
  have hcode := code_of_row w0 (by omega)
  clear w0
  go_enter Try.func3, Try.ntmps3
  go_wp2_with fail
  refine (big_any _ _ _ _).mono ?_
  rintro e w1 ⟨rfl, rfl⟩
  rw [decide_eq_false hbig]
  go_wp2_with fail
  refine (drawPartsOf_any _ _ _ _ hcode).mono ?_
  rintro e w1 ⟨a, n, c, ts, rfl, hn, hT1, ht1⟩
  clear hcode
  go_wp2_with fail
  refine (partsOf_any _ _ _ ts _ hT1).mono ?_
  rintro e w2 ⟨pa, pn, pc, rs, rfl, hs2, hb2⟩
  have ht2 := ht1.trans (hb2.mono ht1.size)
  have hT2 := hT1.below (Nat.le_refl _) hb2
  clear hT1 hb2
  go_wp2_with fail
  refine (specExpOk_any _ _ _ ts _ hT2).mono ?_
  rintro e w3 ⟨rfl, hb3⟩
  have ht3 := ht2.trans (hb3.mono ht2.size)
  have hT3 := hT2.below (Nat.le_refl _) hb3
  have hs3 := hs2.below hb3
  clear hT2 hs2 hb3 ht2
  cases hok : expB ts with
  | false =>
    have HK := Lib.hid hok
    have hpn : pn = 0 := by have := hs3.2.2.1; rw [partsL_no hok] at this; simpa using this.symm
    subst hpn
    have HF := Lib.hid (firstI_no (at_ := 0) (.inl hok))
    clear hok
    go_wp2_with fail
    refine (expOk_any _ _ _ ts _ hT3).mono ?_
    rintro e w4 ⟨rfl, hb4⟩
    rw [HK.out]
    have ht4 := ht3.trans (hb4.mono ht3.size)
    have hT4 := hT3.below (Nat.le_refl _) hb4
    go_wp2_with fail
    refine (firstOf_any _ _ _ ts _ hT4 _).mono ?_
    rintro e w5 ⟨rfl, hb5⟩
    rw [HF.out]
    go_wp2_with fail
    go_ret
    exact ⟨rfl, ht4.trans (hb5.mono ht4.size)⟩
  | true =>
    have HK := Lib.hid hok
    obtain ⟨op, nn, kids, hstk, hts, hop, hkl, hkok⟩ := tree_of ((expB_iff ts).1 hok).2
    have HP := Lib.hid (partsL_yes hok hstk)
    have hn3 : n ≤ 3000 := by have := ((expB_iff ts).1 hok).1; have := hT3.1; omega
    have HL := Lib.hid hT3.1
    have hpn : kids.length = pn := by have := hs3.2.2.1; rw [partsL_yes hok hstk] at this; simpa using this
    have HPN := Lib.hid hpn
    have HTS := Lib.hid hts
    have hnl : n = (Tr.flats kids).length + 1 := by rw [← HL.out, hts]; simp
    have hfk : (Tr.flats kids).length + 1 ≤ 3000 := by omega
    have HNL := Lib.hid hnl
    have HTOK : Hid ((Tr.node op nn kids).okT) := by show Tr.okT _; simp only [Tr.okT]; exact ⟨hop, hkl, hkok⟩
    have HTK : Hid (takesI op = (pn : Int)) := by show _ = _; rw [← hkl, hpn]
    have HFA := Lib.hid (first_all hok hts HTOK.out)
    rw [HL.out] at HFA
    have HFP : Hid (∀ i, i < kids.length → firstI ts (((Tr.flats (kids.take (i + 1))).length : Int) - 1) = ((Tr.flats (kids.take i)).length : Int)) := fun i hi => first_part hok hts hkok hi
    rw [HP.out] at hs3
    obtain ⟨lb, lo, lx, ly, rfl, hlb, hlz, hlin1, hlin2, hlc1, hlc2⟩ := hT3.at_ (k := n - 1) (by omega)
    have hlast : lx = op ∧ ly = nn := by
      have e : tmAt ts (n - 1) = (op, nn) := by
        rw [hts, show n - 1 = (Tr.flats kids).length + 0 by omega, tmAt_append_right]; rfl
      rw [hlz.out] at e
      injection e with e1 e2
      exact ⟨e1, e2⟩
    obtain ⟨rfl, rfl⟩ := hlast
    have hin := okT_in HTOK.out
    have hpn3 : pn ≤ 3 := by have := HTK.out; have := takesI_range lx; omega
    clear hok hstk hts hop hkl hpn hnl hlz
    have hrd := hs3.reads
    have hn0 : 0 < n := by have := HNL.out; omega
    go_wp2
    go_loopw [5, 6] (fun ov i wr => ∃ (k on oc : Nat) (oa : Option Addr), k ≤ pn ∧ i = .int .i64 k ∧ ov = .slice oa on oc ∧ OwnT wr w3.heap.size oa on oc (Tr.flats (kids.take k)) ∧ Below w3.heap.size w3 wr) (fun _ i _ => pn - (intOf i).toNat)
    case atStart => exact ⟨0, 0, 0, _, Nat.zero_le _, rfl, rfl, ownT_empty w3 _ (Nat.le_refl _), (Below.refl _ _).alloc (Nat.le_refl _) _⟩
    case round =>
      obtain ⟨k, on, oc, oa, hk, rfl, rfl, hout, hbel⟩ := hrel
      have hws : w3.heap.size ≤ wr.heap.size := hbel.size
      by_cases hlt : k < pn
      · obtain ⟨b1, o1, a1, n1, c1, rfl, hb1, hsl, hc1, hTk⟩ := (hrd.below hbel).at_ hlt
        have hki : k < kids.length := by rw [HPN.out]; exact hlt
        obtain ⟨fk, HFE⟩ : ∃ fk, Hid (tsAt (kids.map Tr.flat) k = fk) := ⟨_, rfl⟩
        have HFE2 : Hid ((kids.getD k default).flat = fk) := by show _ = _; rw [← map_flat_at hki]; exact HFE.out
        rw [HFE.out] at hTk
        have hpos : 0 < n1 := by have := hTk.1; have := flat_pos (kids.getD k default); rw [HFE2.out] at this; omega
        obtain ⟨b2, o2, rfl, hb2, _⟩ := hTk.2.2.2 hpos
        have hkb := flats_take_le kids k hki
        have HE := Lib.hid (expB_flat (oks_getD hkok hki) (by omega))
        have HS := Lib.hid (flats_take_succ kids k hki)
        rw [HFE2.out] at HE HS hkb
        have HFK := Lib.hid (HFP.out k hki)
        have honl := hout.len
        have hn1l := hTk.1
        have HON := Lib.hid honl
        have hbo : on + n1 ≤ 3000 := by omega
        have HON2 : Hid ((Tr.flats (kids.take (k + 1))).length = on + n1) := by show _ = _; rw [HS.out, List.length_append]; omega
        have HFK2 : Hid (∀ z : Int, z = (on : Int) + (n1 : Int) - 1 → firstI ts z = (on : Int)) := fun z hz => by
          have := HFK.out
          rw [HON2.out, honl] at this
          rw [hz, show (on : Int) + (n1 : Int) - 1 = ((on + n1 : Nat) : Int) - 1 by omega]
          exact this
        have hne : ((on : Int) != (on : Int)) = false := by simp
        clear honl hn1l hkb
        go_wp2_with (at_builtin; refine wpList_concatT _ rfl _ _ rfl w3.heap.size _ _ _ (Tr.flats (kids.take k)) rfl hout b2 o2 n1 c1 fk rfl hTk (by omega) hws ?_)
        intro a5 c5 w5 hout5 hg5
        rw [← HS.out] at hout5
        have hb5 : Below w3.heap.size w3 w5 := hbel.grown hg5.1 hws (fun g hg => (hout.block g hg).1)
        obtain ⟨b1', o1', a1', n1', c1', e1', hb1', hsl', hc1', hTk'⟩ := (hrd.below hb5).at_ hlt
        injection e1' with e1'
        injection e1' with e2' e3'
        subst e2' e3'
        rw [hsl.out] at hsl'
        have hsl2 := hsl'.out
        injection hsl2 with f1 f2
        injection f2 with f2 f3
        subst f1 f2 f3
        rw [HFE.out] at hTk'
        have hws5 : w3.heap.size ≤ w5.heap.size := hb5.size
        clear hc1 hout hbel hg5 hTk hsl'
        go_wp2_with fail
        refine (expOk_any _ _ _ fk _ hTk').mono ?_
        rintro e w6 ⟨rfl, hb6⟩
        rw [HE.out]
        have hout6 := hout5.below hb6
        have hb36 := hb5.trans (hb6.mono hws5)
        clear hout5 hb5 hb6 hTk' hc1'
        go_wp2_with fail
        refine (firstOf_any _ _ _ ts _ (hT3.below (Nat.le_refl _) hb36) _).mono ?_
        rintro e w7 ⟨rfl, hb7⟩
        have hout7 := hout6.below hb7
        have hb37 := hb36.trans (hb7.mono hb36.size)
        clear hout6 hb36 hb7
        rw [show firstI ts ((on : Int) + (n1 : Int) - 1) = (on : Int) from HFK2.out _ rfl]
        go_wp2
        go_roundw
        case rel => exact ⟨k + 1, on + n1, c5, a5, by omega, by go_num, rfl, hout7, hb37⟩
        case measure => simp [intOf]; omega
      · obtain rfl : pn = k := by omega
        have hall : kids.take pn = kids := List.take_of_length_le (by rw [HPN.out]; exact Nat.le_refl _)
        rw [hall] at hout
        have hol : on + 1 = n := by rw [HNL.out, hout.len]
        have hon : on < 1048576 := by omega
        have HOL := Lib.hid hol
        have hl1 : wr.cell? ⟨lb, lo + (n - 1) * 2, none⟩ = some (.int .i64 lx) := (hbel.cell hlb).trans hlc1
        have hl2 : wr.cell? ⟨lb, lo + (n - 1) * 2 + 1, none⟩ = some (.int .i64 ly) := (hbel.cell hlb).trans hlc2
        have heq : ((pn : Int) == (pn : Int)) = true := by simp
        clear hall hol hlc1 hlc2
        go_wp2_with fail
        refine (takes_any _ _).mono ?_
        rintro e w6 ⟨rfl, rfl⟩
        rw [HTK.out]
        go_wp2_with (at_builtin; refine wpList_pushTw _ (by rfl) _ _ rfl w3.heap.size _ _ _ (Tr.flats kids) rfl ((hout.alloc _).alloc _) (wr.heap.size + 1) lx ly rfl (by simp) (by simp) hin hon (by simp; omega) ?_)
        intro a7 c7 w7 hout7 hg7
        have hb7 : Below w3.heap.size w3 w7 := ((hbel.alloc hws _).alloc (by simp; omega) _).grown hg7.1 (by simp; omega) (fun g hg => (hout.block g hg).1)
        rw [← HTS.out] at hout7
        clear hout hg7 hbel hl1 hl2
        go_wp2_with fail
        refine (likeTerms_any _ _ _ _ _ _ ts ts _ hout7.terms (hT3.below (Nat.le_refl _) hb7)).mono ?_
        rintro e w8 ⟨rfl, hb8⟩
        rw [decide_eq_true rfl]
        have hb38 := hb7.trans (hb8.mono hb7.size)
        clear hout7 hb7 hb8
        go_wp2_with fail
        refine (firstOf_any _ _ _ ts _ (hT3.below (Nat.le_refl _) hb38) _).mono ?_
        rintro e w9 ⟨rfl, hb9⟩
        rw [HFA.out]
        have ht9 := ht3.trans ((hb38.trans (hb9.mono hb38.size)).mono ht3.size)
        go_wp2_with fail
        go_ret
        exact ⟨rfl, ht9⟩

/-! ### THE ROW's STEP: WRITTEN OUT: LEAVE IT -/
set_option maxRecDepth 100000 in
theorem lifted (os : Os) (started : os.Started) (H : Type) (enc : TypeId × Value → H) :
    ReturnsInHanded {} Try.checked os 3 .any (Rows.fnPartsSpec.pre6 enc Try.prog Try.f3 Rows.fnPartsRow.domain false) (Rows.fnPartsSpec.post enc Try.prog Try.f3 false true false false) := by
  refine returnsInHanded_of_change (C := Try.checked) own started (by kernel_rfl) Try.func3
    (ChangeSpec.witness6 (enc := enc) (C := Try.checked) false ⟨#[], #[.slice none 0 0], []⟩ 8 (by kernel_rfl) (by kernel_rfl) (by kernel_rfl) (by kernel_rfl)) ?_
  intro W base args ds gs before hval0 hW hcnd _
  have hval : ∀ (j : Nat) t v, Try.f3.params[j]? = some t → args[j]? = some v → Value.okWide Try.prog W .any base t v := hval0
  have hW' := hW
  obtain ⟨p, q, hA0, hV, rfl, hfz, hnd⟩ := hW
  have hA : DataW.TrodAll enc Try.prog W 0 (fun _ => true) true Try.f3.params.toList args.toList ds p := hA0
  rw [Try.params3] at hA hval
  obtain ⟨v0, vs0, d0, ds0, p0, q0, hargs, rfl, rfl, h0, r0⟩ := trodAll_cons hA
  obtain ⟨rfl, rfl, rfl⟩ := trodAll_nil r0
  obtain rfl : args = #[v0] := by cases args; simp_all
  obtain ⟨rfl, rfl⟩ := trodVars_none hV
  obtain ⟨a0, len0, cap0, rfl⟩ := okWide_slice Try.underlying22 (hval 0 22 v0 rfl rfl)
  have k0 := h0
  have lt0 : ∀ x ∈ p0, x.block < W.heap.size := by obtain ⟨m, hm⟩ := k0; exact DataW.trod_lt m _ _ _ hm
  obtain ⟨z0, w0⟩ : ∃ zs, IsRow .u8 W a0 len0 cap0 zs := by
    obtain ⟨fuel, hf⟩ := h0
    rcases open_ints Try.underlying22 Try.underlying5 (by kernel_rfl) hf with ⟨hcs, _⟩ | ⟨x, l, c, zs, hcs, _, hl, hm, hz, _, hcell, hwz⟩
    · simp [Value.cells] at hcs
      obtain ⟨rfl, rfl, rfl⟩ := hcs
      exact ⟨[], .inl ⟨rfl, rfl, rfl, rfl⟩⟩
    · simp [Value.cells] at hcs
      obtain ⟨rfl, rfl, rfl⟩ := hcs
      exact ⟨zs, .inr ⟨_, rfl, hl, hm, by simpa using hz, hcell, hwz⟩⟩
  clear hA0 hval0
  refine (walk a0 len0 cap0 z0 W w0).mono fun e W' ⟨he, bel⟩ => ?_
  subst he
  exact ⟨_, rfl, _, _, _, [], _, [], hW', trodAll_mk1 (shut_bool Try.underlying4 _), (trodAll_cons_mk (Below.trod laidOut (by kernel_rfl) (of_decide_eq_true (by kernel_rfl)) k0 bel lt0) trodAll_mk0), rfl, bel.frame _, fun h => by cases h⟩

theorem over : Rows.fnPartsRow.holds Try.pinned (OpenSpec.ofChange Rows.fnPartsSpec) :=
  OpenClaim.holds_of_wide 3 Try.f3 rfl rfl rfl rfl rfl rfl rfl ⟨rfl, rfl, rfl, rfl, rfl⟩ rfl rfl rfl rfl rfl (by kernel_rfl) Try.func3 (by kernel_rfl)
    (of_decide_eq_true (by kernel_rfl)) (by unfold Func.isWrapper; first | (rw [if_pos (by decide +kernel)]; kernel_rfl) | (rw [if_neg (by decide +kernel)]; exact ⟨rfl, rfl⟩))
    (fun os started H enc _ => lifted os started H enc)

/-- ████ THE STATEMENT ████ -/
theorem proved : Rows.FnPartsSaid := over
#print axioms proved
end Go.Proofs.Ytjfdmdemgnponaa.fnParts
