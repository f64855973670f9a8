/- For every code, of a drawn list of Terms: where it is an expression, each name in it is in the lists that NamesIn answers, and these are the model's; where it is none they are empty. Conditions: none beyond the given row. (The frame round the walk is the guide's own shell, by program.) -/
import Derived.Test.YtjfdmdemgnponaaRows
import Derived.Test.YtjfdmdemgnponaaNamesLaw
import Derived.WalkKit
import Derived.ProofKit
import Derived.OpenShut
import Derived.ShutString
import Derived.ChangeOld
import Derived.Below
namespace Go.Proofs.Ytjfdmdemgnponaa.fnNames
open Go.ChangeShapes Go.WideShapes Go.ChangeAt Go.RowKit
open Go.ChangeMaps (open_string shut_string)
set_option linter.unusedVariables false

theorem own : ownKnob Try.prog.godebug = none := by kernel_rfl
theorem laidOut : laidOutB Try.prog = true := by kernel_rfl

/-- WHAT THE WALK IS TOLD OF A SLICE OF INTEGERS THAT CAME IN: it is nil; or it leads to a row of 'cap' cells, the numbers 'zs' (the first 'len' are its elements, the rest its spare room), each fitting its kind. -/
def IsRow (k : IntKind) (w : World) (a : Option Addr) (len cap : Nat) (zs : List Int) : Prop :=
  (a = none ∧ len = 0 ∧ cap = 0 ∧ zs = []) ∨
  ∃ x, a = some x ∧ len ≤ cap ∧ cap ≤ maxLen ∧ zs.length = cap ∧ (∀ i, i < zs.length → w.cell? (x.add i) = some (.int k (zs.getD i 0))) ∧ ∀ n ∈ zs, (Lit.int k n).wf = true

/-! ### STEP 1: THE WALK: the Go text returns true, AND WRITES NOTHING THAT WAS THERE: 'Below w.heap.size w w'' (Derived/Below.lean: '.refl', '.alloc', '.drew', '.setCell' at a new block, '.trans'). Open each 'IsRow' by 'rcases' AHEAD of 'go_enter'; part every test ahead of the walk. -/
theorem walk (a0 : Option Addr) (len0 cap0 : Nat) (z0 : List Int) (w : World) (w0 : IsRow .u8 w a0 len0 cap0 z0) :
    Calls Try.prog 4 #[.slice a0 len0 cap0] w fun e w' => e = .returned (.bool true) ∧ Below w.heap.size w w' := by
  by_cases hbig : 4096 < len0
  · go_enter Try.func4, Try.ntmps4
    go_wp2_with (go_at_call 10; refine (big_any _ _ _ _).mono ?_; rintro e w1 ⟨rfl, rfl⟩; rw [decide_eq_true hbig])
    go_ret
    exact ⟨rfl, Below.refl _ _⟩
  have hcode := code_of_row w0 (by omega)
  clear w0
  go_enter Try.func4, Try.ntmps4
  go_wp2_with fail
  refine (big_any _ _ _ _).mono ?_
  rintro e w1 ⟨rfl, rfl⟩
  rw [decide_eq_false hbig]
  go_wp2_with fail
  refine (drawNamesIn_any _ _ _ _ hcode).mono ?_
  rintro e w1 ⟨a, n, c, ts, rfl, hn, hT1, ht1⟩
  clear hcode
  go_wp2_with fail
  refine (namesIn_any _ _ _ ts _ hT1).mono ?_
  rintro e w2 ⟨⟨p2, n2, c2⟩, ⟨q2, m2, d2⟩, rfl, hs2, hb2⟩
  simp only [slV]
  have ht2 := ht1.trans (hb2.mono ht1.size)
  have hT2 := hT1.below (Nat.le_refl _) hb2
  clear hT1 hb2
  go_wp2_with fail
  refine (specExpOk_any _ _ _ ts _ hT2).mono ?_
  rintro e w3 ⟨rfl, hb3⟩
  have ht3 := ht2.trans (hb3.mono ht2.size)
  have hT3 := hT2.below (Nat.le_refl _) hb3
  have hs3 := hs2.below hb3
  have hn2 := hs3.1.2.1
  have hm2 := hs3.2.1.2.1
  simp only [] at hn2 hm2
  clear hT2 hs2 hb3 ht2
  cases hok : expB ts with
  | false =>
    have HK := Lib.hid hok
    have e1 : n2 = 0 := by have := hs3.1.len; unfold namesB at this; rw [hok] at this; simpa using this.symm
    have e2 : m2 = 0 := by have := hs3.2.1.len; unfold namesB at this; rw [hok] at this; simpa using this.symm
    subst e1 e2
    clear hok
    go_wp2_with fail
    refine (expOk_any _ _ _ ts _ hT3).mono ?_
    rintro e w4 ⟨rfl, hb4⟩
    rw [HK.out]
    go_wp2_with fail
    go_ret
    exact ⟨rfl, ht3.trans (hb4.mono ht3.size)⟩
  | true =>
    have HK := Lib.hid hok
    have hn3 : n ≤ 3000 := by have := ((expB_iff ts).1 hok).1; have := hT3.1; omega
    have HL := Lib.hid hT3.1
    have HZ : Hid (∀ y, (1, y) ∈ ts → y ∈ namesB 1 ts) := fun y hy => by
      unfold namesB; rw [if_pos hok, (riseL_is _).2, mem_namesOf]; exact hy
    have HY : Hid (∀ y, (2, y) ∈ ts → y ∈ namesB 2 ts) := fun y hy => by
      unfold namesB; rw [if_pos hok, (riseL_is _).2, mem_namesOf]; exact hy
    obtain ⟨zs, HZ1⟩ : ∃ zs, Hid (namesB 1 ts = zs) := ⟨_, rfl⟩
    obtain ⟨ys, HY1⟩ : ∃ ys, Hid (namesB 2 ts = ys) := ⟨_, rfl⟩
    rw [HZ1.out, HY1.out] at hs3
    rw [HZ1.out] at HZ
    rw [HY1.out] at HY
    clear hok
    go_wp2
    go_loopw [6] (fun i wr => ∃ k : Nat, k ≤ n ∧ i = .int .i64 k ∧ Still w3 wr) (fun i _ => n - (intOf i).toNat)
    case atStart => exact ⟨0, Nat.zero_le _, rfl, Still.refl _⟩
    case round =>
      obtain ⟨k, hk, rfl, hst⟩ := hrel
      have hTr := hT3.below (Nat.le_refl _) (Still.below hst _)
      have hsr := hs3.still hst
      by_cases hlt : k < n
      · obtain ⟨b, o, x, y, rfl, hb, hz, hin1, hin2, hc1, hc2⟩ := hTr.at_ hlt
        have hmem : (x, y) ∈ ts := by rw [← hz.out]; exact tmAt_mem (by rw [HL.out]; exact hlt)
        go_upto_if 49 with fail
        go_cut [8] (fun s wx => ∃ (la : Option Addr) (ln lc : Nat) (ls : List Int), s = .slice la ln lc ∧ Ints wx la ln ls ∧ Hid (x = 1 ∨ x = 2 → y ∈ ls) ∧ wx = wr)
        case first =>
          by_cases hx2 : x = 2
          · subst hx2
            go_wp2_with fail
            go_meet
            exact ⟨q2, m2, d2, ys, rfl, hsr.2.1.ints, fun _ => HY.out y hmem, rfl⟩
          · have hne : (x == 2) = false := by simpa using hx2
            have HX2 := Lib.hid hx2
            clear hx2
            go_wp2_with fail
            go_meet
            refine ⟨p2, n2, c2, zs, rfl, hsr.1.ints, fun h => HZ.out y ?_, rfl⟩
            rcases h with h | h
            · rw [← h]; exact hmem
            · exact absurd h HX2.out
        case rest =>
          obtain ⟨la, ln, lc, ls, rfl, hl, HLS, rfl⟩ := hcut
          have hlb := hl.2.1
          have HLL := Lib.hid hl.1
          go_wp2_with fail
          go_loopw [7, 9] (fun iv kv wr => ∃ (j : Nat) (q : Bool), j ≤ ln ∧ kv = .int .i64 j ∧ iv = .bool q ∧ InTo q y ls j ∧ Still wc wr) (fun _ kv _ => ln - (intOf kv).toNat)
          case atStart => exact ⟨0, false, Nat.zero_le _, rfl, rfl, InTo.start _ _, Still.refl _⟩
          case round =>
            obtain ⟨j, q, hj, rfl, rfl, hq, hsi⟩ := hrel
            have d1 : wr.cell? ⟨b, o + k * 2, none⟩ = some (.int .i64 x) := ((Still.below hsi _).cell hb).trans hc1
            have d2 : wr.cell? ⟨b, o + k * 2 + 1, none⟩ = some (.int .i64 y) := ((Still.below hsi _).cell hb).trans hc2
            by_cases hjl : j < ln
            · obtain ⟨lb, lo, z, rfl, hlb1, hlz, hlin, hlc⟩ := (hl.still hsi).at_ hjl
              have hjl2 : j < ls.length := by rw [HLL.out]; exact hjl
              cases q with
              | true =>
                have hq2 := hq.keep hjl2 hlz
                go_wp2
                go_quiet (fail)
                go_wp2
                go_roundw
                case rel => exact ⟨j + 1, true, by omega, by go_num, rfl, hq2, hsi.draw _⟩
                case measure => simp [intOf]; omega
              | false =>
                by_cases hzy : z = y
                · subst hzy
                  have hq2 := hq.hit hjl2 hlz
                  have heq : (z == z) = true := by simp
                  go_wp2
                  go_quiet (fail)
                  go_wp2
                  go_roundw
                  case rel => exact ⟨j + 1, true, by omega, by go_num, rfl, hq2, hsi.draw _⟩
                  case measure => simp [intOf]; omega
                · have hq2 := hq.miss hjl2 hlz hzy
                  have hne : (z == y) = false := by simpa using hzy
                  clear hzy
                  go_wp2
                  go_quiet (fail)
                  go_wp2
                  go_roundw
                  case rel => exact ⟨j + 1, false, by omega, by go_num, rfl, hq2, hsi.draw _⟩
                  case measure => simp [intOf]; omega
            · obtain rfl : ln = j := by omega
              have HQ : Hid (y ∈ ls → q = true) := fun hy => hq.done (by rw [HLL.out]; exact Nat.le_refl _) hy
              have hst2 := hst.trans hsi
              clear hq
              by_cases hx1 : x = 1
              · subst hx1
                have hqt : q = true := HQ.out (HLS.out (.inl rfl))
                subst hqt
                go_wp2
                go_roundw
                case rel => exact ⟨k + 1, by omega, by go_num, hst2⟩
                case measure => simp [intOf]; omega
              · by_cases hx2 : x = 2
                · subst hx2
                  have hqt : q = true := HQ.out (HLS.out (.inr rfl))
                  subst hqt
                  go_wp2
                  go_roundw
                  case rel => exact ⟨k + 1, by omega, by go_num, hst2⟩
                  case measure => simp [intOf]; omega
                · have e1 : (x == 1) = false := by simpa using hx1
                  have e2 : (x == 2) = false := by simpa using hx2
                  clear hx1 hx2
                  go_wp2
                  go_roundw
                  case rel => exact ⟨k + 1, by omega, by go_num, hst2⟩
                  case measure => simp [intOf]; omega
      · obtain rfl : n = k := by omega
        have ht4 : Below w.heap.size w wr := ht3.trans (Still.below hst _)
        clear hs3 hT3 hst
        go_wp2_with fail
        refine (specNamesIn_any _ _ _ ts _ hTr).mono ?_
        rintro e w5 ⟨⟨p5, n5, c5⟩, ⟨q5, m5, d5⟩, rfl, hs5, hb5⟩
        rw [HZ1.out, HY1.out] at hs5
        simp only [slV]
        have hs25 := hsr.below hb5
        have hT5 := hTr.below (Nat.le_refl _) hb5
        have ht5 := ht4.trans (hb5.mono ht4.size)
        clear hsr hTr hb5 ht4
        go_wp2_with fail
        refine (likeInts_any _ _ _ _ _ _ zs zs _ hs25.1.ints hs5.1.ints).mono ?_
        rintro e w6 ⟨rfl, st6⟩
        rw [decide_eq_true rfl]
        have hs26 := hs25.still st6
        have hs6 := hs5.still st6
        have hT6 := hT5.below (Nat.le_refl _) (Still.below st6 _)
        have ht6 := ht5.trans (Still.below st6 _)
        clear hs25 hs5 hT5 st6 ht5
        go_wp2_with fail
        refine (likeInts_any _ _ _ _ _ _ ys ys _ hs26.2.1.ints hs6.2.1.ints).mono ?_
        rintro e w7 ⟨rfl, st7⟩
        rw [decide_eq_true rfl]
        have hT7 := hT6.below (Nat.le_refl _) (Still.below st7 _)
        have ht7 := ht6.trans (Still.below st7 _)
        clear hs26 hs6 hT6 st7 ht6
        go_wp2_with fail
        refine (expOk_any _ _ _ ts _ hT7).mono ?_
        rintro e w8 ⟨rfl, hb8⟩
        rw [HK.out]
        go_wp2_with fail
        go_ret
        exact ⟨rfl, ht7.trans (hb8.mono ht7.size)⟩

/-! ### THE ROW's STEP: WRITTEN OUT: LEAVE IT -/
set_option maxRecDepth 100000 in
theorem lifted (os : Os) (started : os.Started) (H : Type) (enc : TypeId × Value → H) :
    ReturnsInHanded {} Try.checked os 4 .any (Rows.fnNamesSpec.pre6 enc Try.prog Try.f4 Rows.fnNamesRow.domain false) (Rows.fnNamesSpec.post enc Try.prog Try.f4 false true false false) := by
  refine returnsInHanded_of_change (C := Try.checked) own started (by kernel_rfl) Try.func4
    (ChangeSpec.witness6 (enc := enc) (C := Try.checked) false ⟨#[], #[.slice none 0 0], []⟩ 8 (by kernel_rfl) (by kernel_rfl) (by kernel_rfl) (by kernel_rfl)) ?_
  intro W base args ds gs before hval0 hW hcnd _
  have hval : ∀ (j : Nat) t v, Try.f4.params[j]? = some t → args[j]? = some v → Value.okWide Try.prog W .any base t v := hval0
  have hW' := hW
  obtain ⟨p, q, hA0, hV, rfl, hfz, hnd⟩ := hW
  have hA : DataW.TrodAll enc Try.prog W 0 (fun _ => true) true Try.f4.params.toList args.toList ds p := hA0
  rw [Try.params4] at hA hval
  obtain ⟨v0, vs0, d0, ds0, p0, q0, hargs, rfl, rfl, h0, r0⟩ := trodAll_cons hA
  obtain ⟨rfl, rfl, rfl⟩ := trodAll_nil r0
  obtain rfl : args = #[v0] := by cases args; simp_all
  obtain ⟨rfl, rfl⟩ := trodVars_none hV
  obtain ⟨a0, len0, cap0, rfl⟩ := okWide_slice Try.underlying22 (hval 0 22 v0 rfl rfl)
  have k0 := h0
  have lt0 : ∀ x ∈ p0, x.block < W.heap.size := by obtain ⟨m, hm⟩ := k0; exact DataW.trod_lt m _ _ _ hm
  obtain ⟨z0, w0⟩ : ∃ zs, IsRow .u8 W a0 len0 cap0 zs := by
    obtain ⟨fuel, hf⟩ := h0
    rcases open_ints Try.underlying22 Try.underlying5 (by kernel_rfl) hf with ⟨hcs, _⟩ | ⟨x, l, c, zs, hcs, _, hl, hm, hz, _, hcell, hwz⟩
    · simp [Value.cells] at hcs
      obtain ⟨rfl, rfl, rfl⟩ := hcs
      exact ⟨[], .inl ⟨rfl, rfl, rfl, rfl⟩⟩
    · simp [Value.cells] at hcs
      obtain ⟨rfl, rfl, rfl⟩ := hcs
      exact ⟨zs, .inr ⟨_, rfl, hl, hm, by simpa using hz, hcell, hwz⟩⟩
  clear hA0 hval0
  refine (walk a0 len0 cap0 z0 W w0).mono fun e W' ⟨he, bel⟩ => ?_
  subst he
  exact ⟨_, rfl, _, _, _, [], _, [], hW', trodAll_mk1 (shut_bool Try.underlying4 _), (trodAll_cons_mk (Below.trod laidOut (by kernel_rfl) (of_decide_eq_true (by kernel_rfl)) k0 bel lt0) trodAll_mk0), rfl, bel.frame _, fun h => by cases h⟩

theorem over : Rows.fnNamesRow.holds Try.pinned (OpenSpec.ofChange Rows.fnNamesSpec) :=
  OpenClaim.holds_of_wide 4 Try.f4 rfl rfl rfl rfl rfl rfl rfl ⟨rfl, rfl, rfl, rfl, rfl⟩ rfl rfl rfl rfl rfl (by kernel_rfl) Try.func4 (by kernel_rfl)
    (of_decide_eq_true (by kernel_rfl)) (by unfold Func.isWrapper; first | (rw [if_pos (by decide +kernel)]; kernel_rfl) | (rw [if_neg (by decide +kernel)]; exact ⟨rfl, rfl⟩))
    (fun os started H enc _ => lifted os started H enc)

/-- ████ THE STATEMENT ████ -/
theorem proved : Rows.FnNamesSaid := over
#print axioms proved
end Go.Proofs.Ytjfdmdemgnponaa.fnNames
