/- For every code, of the body of a drawn program: EndOf answers at every place as the model's; an if, a loop, a try has its end behind it, all else has none; beginnings and ends are as many. Conditions: none beyond the given row. (The frame round the walk is the guide's own shell, by program.) -/
import Derived.Test.YteigeihbokkpiaaRows
import Derived.Test.YteigeihbokkpiaaJ1
import Derived.Test.YteigeihbokkpiaaJ9
import Derived.Test.YteigeihbokkpiaaJ10
import Derived.Test.YteigeihbokkpiaaJ14
import Derived.Test.YteigeihbokkpiaaJ8
import Derived.Test.YteigeihbokkpiaaImplEnd
import Derived.WalkKit
import Derived.ProofKit
import Derived.OpenShut
import Derived.ShutString
import Derived.ChangeOld
import Derived.Below
namespace Go.Proofs.Yteigeihbokkpiaa.fnEnds
open Go.ChangeShapes Go.WideShapes Go.ChangeAt Go.RowKit
open Go.ChangeMaps (open_string shut_string)
set_option linter.unusedVariables false

theorem own : ownKnob Try.prog.godebug = none := by kernel_rfl
theorem laidOut : laidOutB Try.prog = true := by kernel_rfl

/-- WHAT THE WALK IS TOLD OF A SLICE OF INTEGERS THAT CAME IN: it is nil; or it leads to a row of 'cap' cells, the numbers 'zs' (the first 'len' are its elements, the rest its spare room), each fitting its kind. -/
def IsRow (k : IntKind) (w : World) (a : Option Addr) (len cap : Nat) (zs : List Int) : Prop :=
  (a = none ∧ len = 0 ∧ cap = 0 ∧ zs = []) ∨
  ∃ x, a = some x ∧ len ≤ cap ∧ cap ≤ maxLen ∧ zs.length = cap ∧ (∀ i, i < zs.length → w.cell? (x.add i) = some (.int k (zs.getD i 0))) ∧ ∀ n ∈ zs, (Lit.int k n).wf = true

/-! ### STEP 1: THE WALK: the Go text returns true, AND WRITES NOTHING THAT WAS THERE: 'Below w.heap.size w w'' (Derived/Below.lean: '.refl', '.alloc', '.drew', '.setCell' at a new block, '.trans'). Open each 'IsRow' by 'rcases' AHEAD of 'go_enter'; part every test ahead of the walk. -/
set_option maxRecDepth 20000 in
set_option maxHeartbeats 6400000 in
theorem walk (a0 : Option Addr) (len0 cap0 : Nat) (z0 : List Int) (w : World) (w0 : IsRow .u8 w a0 len0 cap0 z0) :
    Calls Try.prog 4 #[.slice a0 len0 cap0] w fun e w' => e = .returned (.bool true) ∧ Below w.heap.size w w' := by
  by_cases hbig : 4096 < len0
  · go_enter Try.func4, Try.ntmps4
    go_wp2_with (go_at_call 9; refine (big_any _ _ _ _).mono ?_; rintro e w1 ⟨rfl, rfl⟩; rw [decide_eq_true hbig])
    go_ret
    exact ⟨rfl, Below.refl _ _⟩
  have hcode := code_of_row w0 (by omega)
  clear w0
  go_enter Try.func4, Try.ntmps4
  go_wp2_with fail
  refine (big_any _ _ _ _).mono ?_
  rintro e w1 ⟨rfl, rfl⟩
  rw [decide_eq_false hbig]
  go_wp2_with fail
  refine (roll_any _ _ _ _ _ hcode).mono ?_
  rintro e w1 ⟨p, rfl, hp, D1, ht1⟩
  clear hcode
  go_wp2_with fail
  refine (program_any p _ D1).mono ?_
  rintro e w2 ⟨⟨wd, ⟨q1, m1, d1⟩, ⟨q2, m2, d2⟩, tp, ⟨q3, m3, d3⟩, ⟨a, n, c⟩, rs⟩, ⟨pw, pl, ps, pt, pa, ss⟩, A, l, s, b, s', b', rfl, hP, _, _, hok, _, _, g2⟩
  simp only [progV, slV]
  have hfield := field_body (.int .i64 wd) (.slice q1 m1 d1) (.slice q2 m2 d2) (.int .i64 tp) (.slice q3 m3 d3) (.slice a n c)
  have ht2 : Below w.heap.size w w2 := ht1.grown g2 ht1.size (fun g e => by injection e with e; omega)
  obtain ⟨h40, hblk⟩ := codeB_nest hok
  have hS := hP.body
  simp only [] at hS h40 hblk
  obtain ⟨hbal, hgood⟩ := nested hblk
  have hl := hS.2.1
  rw [hl] at h40 hbal
  have HBAL := Lib.hid hbal
  have HGOOD := Lib.hid hgood
  have HL := Lib.hid hl
  clear hP hok g2 ht1 D1 hblk hbal hgood hl
  go_wp2
  go_loopw [4, 5] (fun ov av wr => ∃ k : Nat, k ≤ n ∧ av = .int .i64 (k : Int) ∧ ov = .int .i64 (bal ss k) ∧ Below w.heap.size w wr ∧ Stmts wr a n rs ss) (fun _ av _ => n - (intOf av).toNat)
  case atStart => exact ⟨0, Nat.zero_le _, rfl, rfl, ht2, hS⟩
  case round =>
    clear ht2 hS
    obtain ⟨k, hk, rfl, rfl, ht, hS⟩ := hrel
    obtain ⟨Z, HZ⟩ : ∃ Z, Hid (bal ss k = Z) := ⟨_, rfl⟩
    rw [HZ.out]
    have hZs := bal_small ss k
    rw [HZ.out] at hZs
    by_cases hlt : k < n
    case neg =>
      obtain rfl : k = n := by omega
      have hz0 : Z = 0 := HZ.out.symm.trans HBAL.out
      subst hz0
      go_wp2
      go_ret
      exact ⟨rfl, ht⟩
    have hlen : k < ss.length := by rw [HL.out]; exact hlt
    have hce := implEndOf_any a n c rs ss (k : Int) wr hS
    rw [endB_in hlen (by rw [HL.out]; exact h40)] at hce
    have hcs : ∀ w', Stmts w' a n rs ss → _ := fun w' h => specEndOf_any a n c rs ss (k : Int) w' h
    rw [endB_in hlen (by rw [HL.out]; exact h40)] at hcs
    have HB1 : Hid (bal ss (k + 1) = Z + tilt (opAt ss k)) := Lib.hid (by rw [← HZ.out]; rfl)
    obtain ⟨bb, o, x, y, p1, k1, c1, p2, k2, c2, ts, us, rfl, hb, hz, _, _, hc1, _⟩ := hS.at_ hlt
    have hop : opAt ss k = x := by rw [opAt, hz.out]
    rw [hop] at HB1
    by_cases ho : x = 2 ∨ x = 5 ∨ x = 8
    case pos =>
      obtain ⟨e, h1, h2, h3, h4, h5⟩ := end_shape hlen (HGOOD.out k hlen (by rw [hop]; exact ho))
      have h3' : e < n := by rw [← HL.out]; exact h3
      obtain ⟨m, hm⟩ : ∃ m, (endOf ss k).1 = m := ⟨_, rfl⟩
      have hmr : -1 ≤ m ∧ m < (e : Int) := by
        rw [← hm]
        rcases h5 with ⟨_, h6, _⟩ | ⟨q, h6, _, h7, _⟩ <;> rw [h6] <;> omega
      rw [h1, hm] at hce hcs
      have HCE := Lib.hid hce
      have HCS := Lib.hid hcs
      rw [tilt_two ho] at HB1
      have d1 : decide ((e : Int) ≤ (k : Int)) = false := by simp; omega
      have d2 : decide (m ≥ (e : Int)) = false := by simp; omega
      have d3 : decide (m < -1) = false := by simp; omega
      have d4 : (m != m) = false := by simp
      have d5 : ((e : Int) != (e : Int)) = false := by simp
      have hx4 : (x == 4) = false := by simp; omega
      clear hce hcs h5 hm h1 h3 hop hc1
      go_wp2_with fail
      refine HCE.out.mono ?_
      rintro ed w3 ⟨rfl, hb3⟩
      have ht3 := ht.trans (hb3.mono ht.size)
      have hS3 := hS.below hb3
      go_wp2_with fail
      refine (HCS.out w3 hS3).mono ?_
      rintro ed w4 ⟨rfl, rfl⟩
      obtain ⟨b2, o2, x2, y2, _, _, _, _, _, _, _, _, e2, hb2, hz2, _, _, hc2, _⟩ := hS3.at_ hlt
      obtain ⟨b3, o3, x3, y3, _, _, _, _, _, _, _, _, e3, hb3', hz3, _, _, hc3, _⟩ := hS3.at_ h3'
      injection e2 with e2
      injection e2 with e2 e2'
      subst e2 e2'
      injection e3 with e3
      injection e3 with e3 e3'
      subst e3 e3'
      have hx2 : x2 = x := by have := hz.out.symm.trans hz2.out; injection this with this; exact this.symm
      have hx3 : x3 = 4 := by rw [opAt, hz3.out] at h4; exact h4
      subst hx2 hx3
      clear hS h4
      rcases ho with rfl | rfl | rfl
      all_goals
        go_wp2
        go_roundw
        case rel => exact ⟨k + 1, by omega, by go_num, by rw [HB1.out] <;> go_num, ht3, hS3⟩
        case measure => simp [intOf]; omega
    case neg =>
      have hne := end_else hlen (by rw [hop]; exact ho)
      rw [hne] at hce hcs
      have HCE := Lib.hid hce
      have HCS := Lib.hid hcs
      have x2' : (x == 2) = false := by simp; omega
      have x5' : (x == 5) = false := by simp; omega
      have x8' : (x == 8) = false := by simp; omega
      clear hce hcs hne hop hc1
      go_wp2_with fail
      refine HCE.out.mono ?_
      rintro ed w3 ⟨rfl, hb3⟩
      have ht3 := ht.trans (hb3.mono ht.size)
      have hS3 := hS.below hb3
      go_wp2_with fail
      refine (HCS.out w3 hS3).mono ?_
      rintro ed w4 ⟨rfl, rfl⟩
      obtain ⟨b2, o2, x2, y2, _, _, _, _, _, _, _, _, e2, hb2, hz2, _, _, hc2, _⟩ := hS3.at_ hlt
      injection e2 with e2
      injection e2 with e2 e2'
      subst e2 e2'
      have hx2 : x2 = x := by have := hz.out.symm.trans hz2.out; injection this with this; exact this.symm
      subst hx2
      clear hS
      by_cases h4 : x2 = 4
      · subst h4
        rw [tilt_four] at HB1
        go_wp2
        go_roundw
        case rel => exact ⟨k + 1, by omega, by go_num, by rw [HB1.out] <;> go_num, ht3, hS3⟩
        case measure => simp [intOf]; omega
      · rw [tilt_none ho h4] at HB1
        have x4' : (x2 == 4) = false := by simpa using h4
        go_wp2
        go_roundw
        case rel => exact ⟨k + 1, by omega, by go_num, by rw [HB1.out] <;> go_num, ht3, hS3⟩
        case measure => simp [intOf]; omega

/-! ### THE ROW's STEP: WRITTEN OUT: LEAVE IT -/
set_option maxRecDepth 100000 in
theorem lifted (os : Os) (started : os.Started) (H : Type) (enc : TypeId × Value → H) :
    ReturnsInHanded {} Try.checked os 4 .any (Rows.fnEndsSpec.pre6 enc Try.prog Try.f4 Rows.fnEndsRow.domain false) (Rows.fnEndsSpec.post enc Try.prog Try.f4 false true false false) := by
  refine returnsInHanded_of_change (C := Try.checked) own started (by kernel_rfl) Try.func4
    (ChangeSpec.witness6 (enc := enc) (C := Try.checked) false ⟨#[], #[.slice none 0 0], []⟩ 8 (by kernel_rfl) (by kernel_rfl) (by kernel_rfl) (by kernel_rfl)) ?_
  intro W base args ds gs before hval0 hW hcnd _
  have hval : ∀ (j : Nat) t v, Try.f4.params[j]? = some t → args[j]? = some v → Value.okWide Try.prog W .any base t v := hval0
  have hW' := hW
  obtain ⟨p, q, hA0, hV, rfl, hfz, hnd⟩ := hW
  have hA : DataW.TrodAll enc Try.prog W 0 (fun _ => true) true Try.f4.params.toList args.toList ds p := hA0
  rw [Try.params4] at hA hval
  obtain ⟨v0, vs0, d0, ds0, p0, q0, hargs, rfl, rfl, h0, r0⟩ := trodAll_cons hA
  obtain ⟨rfl, rfl, rfl⟩ := trodAll_nil r0
  obtain rfl : args = #[v0] := by cases args; simp_all
  obtain ⟨rfl, rfl⟩ := trodVars_none hV
  obtain ⟨a0, len0, cap0, rfl⟩ := okWide_slice Try.underlying22 (hval 0 22 v0 rfl rfl)
  have k0 := h0
  have lt0 : ∀ x ∈ p0, x.block < W.heap.size := by obtain ⟨m, hm⟩ := k0; exact DataW.trod_lt m _ _ _ hm
  obtain ⟨z0, w0⟩ : ∃ zs, IsRow .u8 W a0 len0 cap0 zs := by
    obtain ⟨fuel, hf⟩ := h0
    rcases open_ints Try.underlying22 Try.underlying5 (by kernel_rfl) hf with ⟨hcs, _⟩ | ⟨x, l, c, zs, hcs, _, hl, hm, hz, _, hcell, hwz⟩
    · simp [Value.cells] at hcs
      obtain ⟨rfl, rfl, rfl⟩ := hcs
      exact ⟨[], .inl ⟨rfl, rfl, rfl, rfl⟩⟩
    · simp [Value.cells] at hcs
      obtain ⟨rfl, rfl, rfl⟩ := hcs
      exact ⟨zs, .inr ⟨_, rfl, hl, hm, by simpa using hz, hcell, hwz⟩⟩
  clear hA0 hval0
  refine (walk a0 len0 cap0 z0 W w0).mono fun e W' ⟨he, bel⟩ => ?_
  subst he
  exact ⟨_, rfl, _, _, _, [], _, [], hW', trodAll_mk1 (shut_bool Try.underlying4 _), (trodAll_cons_mk (Below.trod laidOut (by kernel_rfl) (of_decide_eq_true (by kernel_rfl)) k0 bel lt0) trodAll_mk0), rfl, bel.frame _, fun h => by cases h⟩

theorem over : Rows.fnEndsRow.holds Try.pinned (OpenSpec.ofChange Rows.fnEndsSpec) :=
  OpenClaim.holds_of_wide 4 Try.f4 rfl rfl rfl rfl rfl rfl rfl ⟨rfl, rfl, rfl, rfl, rfl⟩ rfl rfl rfl rfl rfl (by kernel_rfl) Try.func4 (by kernel_rfl)
    (of_decide_eq_true (by kernel_rfl)) (by unfold Func.isWrapper; first | (rw [if_pos (by decide +kernel)]; kernel_rfl) | (rw [if_neg (by decide +kernel)]; exact ⟨rfl, rfl⟩))
    (fun os started H enc _ => lifted os started H enc)

/-- ████ THE STATEMENT ████ -/
theorem proved : Rows.FnEndsSaid := over
#print axioms proved
end Go.Proofs.Yteigeihbokkpiaa.fnEnds
