/- Joined texts of this proof (LaidStr, TextProg, SpecStmtText, SpecShowProg, ImplLine), in build order. -/
import Derived.Test.YtjboghmcmlkpoaaGreatDoorJ18
import Derived.MakeChecks
import Derived.LaidMore
import Derived.Stop.LaidErr
import Derived.Lib.LaidTab
import Derived.OpenVars
import Derived.Test.YtjboghmcmlkpoaaGreatDoorJ21
/- From the row's condition on the listed variables to what the contracts ask: a variable that is an array of texts. -/
namespace Go.Proofs.YtjboghmcmlkpoaaGreatDoor
open Go.RowKit
set_option maxRecDepth 100000

theorem trodVars_len {H : Type} {enc : TypeId × Value → H} {P : Program} {w : World} {sp : Nat → Bool} : ∀ {ns : List String} {gs : List (DataW H)} {ps : List MemPlace}, DataW.TrodVars enc P w sp ns gs ps → gs.length = ns.length
  | [], [], _, _ => rfl
  | [], _ :: _, _, h => h.elim
  | _ :: _, [], _, h => h.elim
  | _ :: _, _ :: _, _, ⟨_, _, _, _, _, _, _, _, _, _, hs, _⟩ => by simp [trodVars_len hs]
theorem vars_one {H : Type} {gs : List (DataW H)} (h : gs.length = 1) : ∃ g, gs = [g] := by
  match gs, h with
  | [g], _ => exact ⟨g, rfl⟩
theorem vars_two {H : Type} {gs : List (DataW H)} (h : gs.length = 2) : ∃ g g', gs = [g, g'] := by
  match gs, h with
  | [g, g'], _ => exact ⟨g, g', rfl⟩
theorem cells_of_strs {H : Type} {enc : TypeId × Value → H} {P : Program} {w : World} {base : Nat} {sp : Nat → Bool} {held : Bool} {fuel : Nat} {t e : TypeId} {n : Nat} {cs : List Value} {ls : List (List UInt8)} {p : List MemPlace}
    (ht : P.underlying t = some (.array n e)) (he : P.underlying e = some .string) (hce : P.cellsOf e = 1) (hct : P.cellsOf t = n)
    (h : DataW.trod enc P w base sp held fuel t cs = some (.agg (ls.map fun l => .lit (.string l)), p)) : cs = ls.map fun l => Value.string ⟨l.toArray⟩ := by
  cases fuel with
  | zero => simp [DataW.trod] at h
  | succ fuel =>
    simp only [DataW.trod, ht, hce, hct, Nat.mul_one] at h
    split at h
    · rename_i hl
      obtain ⟨xs, hm, hx⟩ := Option.map_eq_some_iff.1 h
      have hxs : xs.map (·.1) = ls.map fun l => (DataW.lit (.string l) : DataW H) := by
        have := congrArg Prod.fst hx
        simpa using this
      have hxl : xs.length = n := by simpa using Lib.mapM_length hm
      have hzl : ls.length = n := by
        have := congrArg List.length hxs
        simp at this
        omega
      apply List.ext_getElem?
      intro i
      by_cases hi : i < n
      · obtain ⟨b, hb, hf⟩ := Lib.mapM_at hm i i (by simp [hi])
        obtain ⟨s, hc, rfl, _⟩ := DataW.trod_string he hf
        have h1 : cs[i]? = some (.string s) := by
          have := congrArg (·[0]?) hc
          simpa [List.getElem?_take, List.getElem?_drop] using this
        have h2 : (xs.map (·.1))[i]? = some (DataW.lit (.string s.data.toList) : DataW H) := by simp [hb]
        rw [hxs] at h2
        simp only [List.getElem?_map, Option.map_eq_some_iff, DataW.lit.injEq, Lit.string.injEq] at h2
        obtain ⟨z', hz', e'⟩ := h2
        rw [h1, List.getElem?_map, hz', e']
        rfl
      · rw [List.getElem?_eq_none (by omega), List.getElem?_eq_none (by simp; omega)]
    · cases h
/-- The array of texts stands first on the list. -/
theorem strsAt_of_head {P : Program} {W : World} {name : String} {ls : List (List UInt8)} {rest : List (String × DataW Unit)} {g : Nat} {t e : TypeId} {n : Nat}
    (hg : P.globalNamed name = some g) (hty : (P.globals[g]?).map (·.type) = some t) (ht : P.underlying t = some (.array n e)) (he : P.underlying e = some .string) (hce : P.cellsOf e = 1) (hct : P.cellsOf t = n)
    (h : laidMet P ((name, .agg (ls.map fun l => .lit (.string l))) :: rest) W) : StrsAt W g ls := by
  obtain ⟨ps, ⟨g', t', cs, fuel, p, q, hg', ht', hvar, hd, _, _⟩, _⟩ := h
  obtain rfl := Option.some.inj (hg.symm.trans hg')
  obtain rfl := Option.some.inj (hty.symm.trans ht')
  have hcs := cells_of_strs ht he hce hct hd
  have hcell := fun i => World.var?_cell hg hvar i
  refine ⟨?_, fun k hk => ?_⟩
  · unfold World.var? at hvar
    rw [hg] at hvar
    simp only [Option.bind_some] at hvar
    cases hh : W.heap[g]? with
    | none => rw [hh] at hvar; cases hvar
    | some o => exact (Array.getElem?_eq_some_iff.1 hh).1
  · rw [hcell k]
    have e1 : cs[k]? = cs.toList[k]? := by simp
    rw [e1, hcs, List.getElem?_map, List.getElem?_eq_getElem hk, List.getD_eq_getElem?_getD, List.getElem?_eq_getElem hk]
    rfl
theorem tabs_of_laid {w : World} (h : laidMetH Tryz.prog [("math/bits.deBruijn32tab", Rows.laid_math_bits_deBruijn32tab), ("math/bits.deBruijn64tab", Rows.laid_math_bits_deBruijn64tab), ("internal/strconv.uint64pow10", Rows.laid_internal_strconv_uint64pow10), ("loop.example/g00697/impl.signs", Rows.laid_loop_example_g00697_impl_signs)] w) : Tabs w := by
  rw [MakeChecks.laidMetH_plain _ _ _ (by kernel_rfl)] at h
  refine ⟨Lib.tabIs_of_head (t := 260) (e := 39) (n := 20) (g := 5) (by kernel_rfl) (by kernel_rfl) Tryz.underlying260 Tryz.underlying39 (by kernel_rfl) (by kernel_rfl) h.tail.tail, ?_⟩
  exact strsAt_of_head (ls := signsL) (t := 169) (e := 9) (n := 12) (by kernel_rfl) (by kernel_rfl) Tryz.underlying169 Tryz.underlying9 (by kernel_rfl) (by kernel_rfl) h.tail.tail.tail
end Go.Proofs.YtjboghmcmlkpoaaGreatDoor
/- Plain mathematics of texts: a statement, a head, a program in words; how long they are. No Go text here. -/
namespace Go.Proofs.YtjboghmcmlkpoaaGreatDoor
open Go.RowKit

/-- A statement in words, without its byte 10. -/
def stmS (L S : Nat) (s : Stm) : List UInt8 :=
  if s.op = 0 then varS L S s.n ++ ([32, 61, 32] ++ expS L S s.exp)
  else if s.op = 1 then 109 :: (Lib.itoa s.n ++ (91 :: (expS L S s.at_ ++ ([93, 32, 61, 32] ++ expS L S s.exp))))
  else if s.op = 2 then [105, 102, 32] ++ expS L S s.exp
  else if s.op = 3 then [101, 108, 115, 101]
  else if s.op = 4 then [101, 110, 100]
  else if s.op = 5 then [108, 111, 111, 112, 32] ++ Lib.itoa s.n
  else if s.op = 6 then [111, 117, 116, 32] ++ expS L S s.exp
  else if s.op = 7 then [116, 104, 114, 111, 119, 32] ++ Lib.itoa s.n
  else if s.op = 8 then [116, 114, 121]
  else [99, 97, 116, 99, 104, 32] ++ Lib.itoa s.n
def widthS (n : Int) : List UInt8 := [119, 105, 100, 116, 104, 32] ++ (Lib.itoa n ++ [10])
def lowS (t : Tm) : List UInt8 := [108, 111, 119, 32] ++ (Lib.itoa t.1 ++ [10])
def secretS (t : Tm) : List UInt8 := [115, 101, 99, 114, 101, 116, 32] ++ (Lib.itoa t.1 ++ (32 :: (Lib.itoa t.2 ++ [10])))
def tempsS (n : Int) : List UInt8 := [116, 101, 109, 112, 115, 32] ++ (Lib.itoa n ++ [10])
def arrayS (z : Int) : List UInt8 := [97, 114, 114, 97, 121, 32] ++ (Lib.itoa z ++ [10])
def headS (p : Prg) : List UInt8 := ((widthS p.width ++ p.lows.flatMap lowS) ++ p.secrets.flatMap secretS) ++ tempsS p.temps ++ p.arrays.flatMap arrayS
def lineS (L S : Nat) (s : Stm) : List UInt8 := stmS L S s ++ [10]
/-- A program in words. -/
def progS (p : Prg) : List UInt8 := headS p ++ p.body.flatMap (lineS p.lows.length p.secrets.length)
/-- What ShowProg answers. -/
noncomputable def progSB (p : Prg) : List UInt8 := if codeB p = 0 then progS p else []

theorem flatMap_succ {α : Type} (f : α → List UInt8) (l : List α) (d : α) (k : Nat) (h : k < l.length) : (l.take (k + 1)).flatMap f = (l.take k).flatMap f ++ f (l.getD k d) := by
  rw [List.take_succ_eq_append_getElem h, List.flatMap_append, List.getD_eq_getElem?_getD, List.getElem?_eq_getElem h]; simp
theorem flatMap_len {α : Type} (f : α → List UInt8) (l : List α) (M : Nat) (h : ∀ x ∈ l, (f x).length ≤ M) : (l.flatMap f).length ≤ M * l.length := by
  induction l with
  | nil => simp
  | cons x r ih =>
    have h1 := h x (by simp)
    have h2 := ih (fun y hy => h y (by simp [hy]))
    simp only [List.flatMap_cons, List.length_append, List.length_cons, Nat.mul_add, Nat.mul_one]
    omega
theorem flatMap_take_len {α : Type} (f : α → List UInt8) (l : List α) (M k : Nat) (h : ∀ x ∈ l, (f x).length ≤ M) : ((l.take k).flatMap f).length ≤ M * l.length := by
  have h1 := flatMap_len f (l.take k) M (fun x hx => h x (List.mem_of_mem_take hx))
  have h2 : (l.take k).length ≤ l.length := by rw [List.length_take]; omega
  exact Nat.le_trans h1 (Nat.mul_le_mul_left M h2)
theorem expS_len {p : Prg} {ts : List Tm} (h : standB p ts = true) : (expS p.lows.length p.secrets.length ts).length ≤ 320 := by
  obtain ⟨T, h1, h2, h3, _, h5, _, _⟩ := stand_tree h
  rw [expS_of h1]
  have := words_len p.lows.length p.secrets.length T h3
  rw [← h2] at this
  omega

/-- What is told of a right statement, kind by kind. -/
theorem stm_cases {S I T A : Nat} {s : Stm} (h : stmtB S I T A s = true) :
    (s.op = 0 ∧ (I : Int) ≤ s.n ∧ s.n ≤ (I : Int) + T - 1 ∧ bodyB S (I + T) A s.exp = true) ∨
    (s.op = 1 ∧ 0 ≤ s.n ∧ s.n ≤ (A : Int) - 1 ∧ bodyB S (I + T) A s.exp = true ∧ bodyB S (I + T) A s.at_ = true) ∨
    (s.op = 2 ∧ bodyB S (I + T) A s.exp = true) ∨ s.op = 3 ∨ s.op = 4 ∨ (s.op = 5 ∧ 0 ≤ s.n ∧ s.n ≤ 9) ∨ (s.op = 6 ∧ bodyB S (I + T) A s.exp = true) ∨ (s.op = 7 ∧ 0 ≤ s.n ∧ s.n ≤ 9) ∨ s.op = 8 ∨ (s.op = 9 ∧ 0 ≤ s.n ∧ s.n ≤ 9) := by
  obtain ⟨op, n, at_, exp⟩ := s
  simp only [stmtB, Bool.and_eq_true, decide_eq_true_eq] at h
  obtain ⟨⟨⟨⟨⟨⟨h0, h9⟩, _⟩, _⟩, he⟩, ha⟩, hn⟩ := h
  simp only [] at h0 h9 he ha hn ⊢
  have hc : op = 0 ∨ op = 1 ∨ op = 2 ∨ op = 3 ∨ op = 4 ∨ op = 5 ∨ op = 6 ∨ op = 7 ∨ op = 8 ∨ op = 9 := by omega
  rcases hc with rfl | rfl | rfl | rfl | rfl | rfl | rfl | rfl | rfl | rfl <;> simp [bears, numOk] at he ha hn ⊢
  · exact ⟨hn.1, hn.2, he⟩
  · exact ⟨hn.1, hn.2, he, ha⟩
  · exact he
  · omega
  · exact he
  · omega
  · omega
theorem stm_len {p : Prg} {s : Stm} (hz : codeB p = 0) (h : stmtB (2 ^ p.width.toNat) (p.lows.length + p.secrets.length) p.temps.toNat p.arrays.length s = true) : (stmS p.lows.length p.secrets.length s).length ≤ 700 := by
  obtain ⟨_, _, h3, h4, h5, h6, h7, _⟩ := code_head hz
  have hx : ∀ ts, bodyB (2 ^ p.width.toNat) (p.lows.length + p.secrets.length + p.temps.toNat) p.arrays.length ts = true → (expS p.lows.length p.secrets.length ts).length ≤ 320 := fun ts hb => expS_len (p := p) hb
  unfold stmS
  rcases stm_cases h with ⟨e, i1, i2, b1⟩ | ⟨e, i1, i2, b1, b2⟩ | ⟨e, b1⟩ | e | e | ⟨e, i1, i2⟩ | ⟨e, b1⟩ | ⟨e, i1, i2⟩ | e | ⟨e, i1, i2⟩ <;> simp only [e]
  · have := hx _ b1; have := varS_len (L := p.lows.length) (S := p.secrets.length) (n := s.n) (by omega) (by omega); simp; omega
  · have := hx _ b1; have := hx _ b2; have := digs3 (n := s.n) (by omega) (by omega); simp; omega
  · have := hx _ b1; simp; omega
  · simp
  · simp
  · have := digs3 (n := s.n) (by omega) (by omega); simp; omega
  · have := hx _ b1; simp; omega
  · have := digs3 (n := s.n) (by omega) (by omega); simp; omega
  · simp
  · have := digs3 (n := s.n) (by omega) (by omega); simp; omega
/-- What is told of a right program's inputs, arrays and statements. -/
theorem code_parts {p : Prg} (h : codeB p = 0) : (∀ t ∈ p.lows, 0 ≤ t.1 ∧ t.1 ≤ 255 ∧ t.2 = 0) ∧ (∀ t ∈ p.secrets, 0 ≤ t.1 ∧ t.1 ≤ 255 ∧ 0 ≤ t.2 ∧ t.2 ≤ 99) ∧ (∀ z ∈ p.arrays, 1 ≤ z ∧ z ≤ 6) ∧ ∀ s ∈ p.body, stmtB (2 ^ p.width.toNat) (p.lows.length + p.secrets.length) p.temps.toNat p.arrays.length s = true := by
  have hh := code_head h
  unfold codeB at h
  split at h
  · exact absurd h (by decide)
  split at h
  · exact absurd h (by decide)
  split at h
  · exact absurd h (by decide)
  split at h
  · exact absurd h (by decide)
  rename_i h1 h2 h3 h4
  have hs : stmtsB p = true := by simpa using h4
  have hr : roomB p = true := by simpa using h3
  have hi : inpB p = true := by simpa using h2
  have hpow : (2 ^ p.width.toNat : Nat) ≤ 256 := by
    have : p.width.toNat ≤ 8 := by omega
    calc 2 ^ p.width.toNat ≤ 2 ^ 8 := Nat.pow_le_pow_right (by omega) this
      _ = 256 := by decide
  simp only [roomB, Bool.and_eq_true, decide_eq_true_eq, List.all_eq_true] at hr
  simp only [inpB, inputsB, Bool.and_eq_true, decide_eq_true_eq, List.all_eq_true] at hi
  simp only [stmtsB, List.all_eq_true] at hs
  refine ⟨fun t ht => ?_, fun t ht => ?_, fun z hz => hr.2 z hz, hs⟩
  · have := hi.1.1.1 t ht
    simp only [inpOk, Bool.and_eq_true, decide_eq_true_eq, Bool.true_and, Bool.not_eq_true', bne_eq_false_iff_eq] at this
    obtain ⟨⟨⟨a, b⟩, _, _⟩, e⟩ := this
    exact ⟨a, by omega, e⟩
  · have := hi.1.2.1 t ht
    simp only [inpOk, Bool.and_eq_true, decide_eq_true_eq] at this
    obtain ⟨⟨⟨a, b⟩, c, d⟩, _⟩ := this
    exact ⟨a, by omega, c, d⟩
theorem lowS_len {t : Tm} (h : 0 ≤ t.1 ∧ t.1 ≤ 255 ∧ t.2 = 0) : (lowS t).length ≤ 10 := by
  have := digs3 (n := t.1) (by omega) (by omega); simp [lowS]; omega
theorem secretS_len {t : Tm} (h : 0 ≤ t.1 ∧ t.1 ≤ 255 ∧ 0 ≤ t.2 ∧ t.2 ≤ 99) : (secretS t).length ≤ 20 := by
  have := digs3 (n := t.1) (by omega) (by omega); have := digs3 (n := t.2) (by omega) (by omega); simp [secretS]; omega
theorem arrayS_len {z : Int} (h : 1 ≤ z ∧ z ≤ 6) : (arrayS z).length ≤ 10 := by
  have := digs3 (n := z) (by omega) (by omega); simp [arrayS]; omega
end Go.Proofs.YtjboghmcmlkpoaaGreatDoor
/- The contracts of the model's l4Stmt and ShowProg (written by tools/gen_specprog.py). -/
namespace Go.Proofs.YtjboghmcmlkpoaaGreatDoor
open Go.RowKit

/-- No slice of the program is longer than its room. -/
structure Caps (r : PRow) : Prop where
  body : r.body.2.1 ≤ r.body.2.2
  ats : ∀ i, i < r.rows.length → (srAt r.rows i).at_.2.1 ≤ (srAt r.rows i).at_.2.2
  exps : ∀ i, i < r.rows.length → (srAt r.rows i).exp.2.1 ≤ (srAt r.rows i).exp.2.2
theorem OwnProg.caps {w : World} {B : Nat} {r : PRow} {p : Prg} (h : OwnProg w B r p) : Caps r := by
  have hl : r.rows.length = r.body.2.1 := h.body.reads.1
  refine ⟨h.cap, fun i hi => ?_, fun i hi => ?_⟩
  · exact own_cap (h.body.2.2.2.1 i (by omega)).2.2.2.2.1.1
  · exact own_cap (h.body.2.2.2.1 i (by omega)).2.2.2.2.2.1
/-- A statement of a program: its cells, what they read as. -/
theorem stmt_row {w : World} {r : PRow} {p : Prg} {k : Nat} (h : ProgAt w r p) (hc : Caps r) (hk : k < p.body.length) :
    ∃ b o x y ba m1 d1 bb m2 d2 ts us, r.body.1 = some ⟨b, o, none⟩ ∧ b < w.heap.size ∧ Hid (stAt p.body k = ⟨x, y, ts, us⟩) ∧ w.cell? ⟨b, o + k * 4, none⟩ = some (.int .i64 x) ∧ w.cell? ⟨b, o + k * 4 + 1, none⟩ = some (.int .i64 y) ∧ w.cell? ⟨b, o + k * 4 + 2, none⟩ = some (.slice ba m1 d1) ∧ w.cell? ⟨b, o + k * 4 + 3, none⟩ = some (.slice bb m2 d2) ∧ m1 ≤ d1 ∧ m2 ≤ d2 ∧ Terms w ba m1 ts ∧ Terms w bb m2 us := by
  obtain ⟨h1, h2, h3, h4, h5⟩ := h.body
  obtain ⟨b, o, e, hb, hcell⟩ := h4 (by omega)
  obtain ⟨s1, s2, s3, s4, s5, s6⟩ := h5 k (by omega)
  obtain ⟨k1, k2, k3, k4⟩ := hcell k (by omega)
  rw [s1] at k1
  rw [s2] at k2
  exact ⟨b, o, _, _, _, _, _, _, _, _, _, _, e, hb, rfl, k1, k2, k3, k4, hc.ats k (by omega), hc.exps k (by omega), s5, s6⟩
theorem l4Exp_stand (r : PRow) (p : Prg) (a : Option Addr) (n c : Nat) (ts : List Tm) (w : World) (h : ProgAt w r p) (hz : codeB p = 0) (hs : standB p ts = true) (ht : Terms w a n ts) (hc : n ≤ c) :
    Calls Tryz.prog 76 #[progV r, .slice a n c] w fun e w' => e = .returned (.string ⟨(expS p.lows.length p.secrets.length ts).toArray⟩) ∧ Below w.heap.size w w' := by
  obtain ⟨T, h1, h2, h3, h4, h5, _, _⟩ := stand_tree hs
  have hn := code_names h hz
  have e1 := h.lows.1
  have e2 := h.secrets.1
  rw [expS_of h1, e1, e2]
  exact l4Exp_any r T a n c w hn.lows hn.secrets h3 (by rw [← h2]; exact h4) (by have := ht.1; omega) (by rw [← h2]; exact ht) hc
set_option maxHeartbeats 3200000 in
theorem l4Stmt_3 (wd tp : Int) (a1 a2 a3 a4 b1 b2 : Option Addr) (n1 n2 n3 n4 c1 c2 c3 c4 m1 m2 d1 d2 : Nat) (y : Int) (w : World)  :
    Calls Tryz.prog 93 #[.agg #[.int .i64 wd, .slice a1 n1 c1, .slice a2 n2 c2, .int .i64 tp, .slice a3 n3 c3, .slice a4 n4 c4], .agg #[.int .i64 3, .int .i64 y, .slice b1 m1 d1, .slice b2 m2 d2]] w fun e w' => e = .returned (.string ⟨([101, 108, 115, 101]).toArray⟩) ∧ Below w.heap.size w w' := by
  go_enter Tryz.func93, Tryz.ntmps93
  go_wp2
  go_ret
  exact ⟨rfl, ((Below.refl _ _).alloc (Nat.le_refl _) _).alloc (by simp) _⟩
set_option maxHeartbeats 3200000 in
theorem l4Stmt_4 (wd tp : Int) (a1 a2 a3 a4 b1 b2 : Option Addr) (n1 n2 n3 n4 c1 c2 c3 c4 m1 m2 d1 d2 : Nat) (y : Int) (w : World)  :
    Calls Tryz.prog 93 #[.agg #[.int .i64 wd, .slice a1 n1 c1, .slice a2 n2 c2, .int .i64 tp, .slice a3 n3 c3, .slice a4 n4 c4], .agg #[.int .i64 4, .int .i64 y, .slice b1 m1 d1, .slice b2 m2 d2]] w fun e w' => e = .returned (.string ⟨([101, 110, 100]).toArray⟩) ∧ Below w.heap.size w w' := by
  go_enter Tryz.func93, Tryz.ntmps93
  go_wp2
  go_ret
  exact ⟨rfl, ((Below.refl _ _).alloc (Nat.le_refl _) _).alloc (by simp) _⟩
set_option maxHeartbeats 3200000 in
theorem l4Stmt_8 (wd tp : Int) (a1 a2 a3 a4 b1 b2 : Option Addr) (n1 n2 n3 n4 c1 c2 c3 c4 m1 m2 d1 d2 : Nat) (y : Int) (w : World)  :
    Calls Tryz.prog 93 #[.agg #[.int .i64 wd, .slice a1 n1 c1, .slice a2 n2 c2, .int .i64 tp, .slice a3 n3 c3, .slice a4 n4 c4], .agg #[.int .i64 8, .int .i64 y, .slice b1 m1 d1, .slice b2 m2 d2]] w fun e w' => e = .returned (.string ⟨([116, 114, 121]).toArray⟩) ∧ Below w.heap.size w w' := by
  go_enter Tryz.func93, Tryz.ntmps93
  go_wp2
  go_ret
  exact ⟨rfl, ((Below.refl _ _).alloc (Nat.le_refl _) _).alloc (by simp) _⟩
set_option maxHeartbeats 3200000 in
theorem l4Stmt_5 (wd tp : Int) (a1 a2 a3 a4 b1 b2 : Option Addr) (n1 n2 n3 n4 c1 c2 c3 c4 m1 m2 d1 d2 : Nat) (y : Int) (w : World) (h0 : 0 ≤ y) (h1 : y ≤ 9) :
    Calls Tryz.prog 93 #[.agg #[.int .i64 wd, .slice a1 n1 c1, .slice a2 n2 c2, .int .i64 tp, .slice a3 n3 c3, .slice a4 n4 c4], .agg #[.int .i64 5, .int .i64 y, .slice b1 m1 d1, .slice b2 m2 d2]] w fun e w' => e = .returned (.string ⟨([108, 111, 111, 112, 32] ++ Lib.itoa y).toArray⟩) ∧ Below w.heap.size w w' := by
  obtain ⟨wb, HW⟩ : ∃ wb, Hid (wb = (w.alloc (.cells #[.int .i64 wd, .slice a1 n1 c1, .slice a2 n2 c2, .int .i64 tp, .slice a3 n3 c3, .slice a4 n4 c4] 28)).alloc (.cells #[.int .i64 5, .int .i64 y, .slice b1 m1 d1, .slice b2 m2 d2] 76)) := ⟨_, rfl⟩
  have BP : Blk wb w.heap.size 28 [.int .i64 wd, .slice a1 n1 c1, .slice a2 n2 c2, .int .i64 tp, .slice a3 n3 c3, .slice a4 n4 c4] := by rw [HW.out]; exact (Blk.new w _ _).alloc _
  have BS : Blk wb (w.heap.size + 1) 76 [.int .i64 5, .int .i64 y, .slice b1 m1 d1, .slice b2 m2 d2] := by rw [HW.out]; have := Blk.new (w.alloc (.cells #[.int .i64 wd, .slice a1 n1 c1, .slice a2 n2 c2, .int .i64 tp, .slice a3 n3 c3, .slice a4 n4 c4] 28)) 76 [.int .i64 5, .int .i64 y, .slice b1 m1 d1, .slice b2 m2 d2]; simpa using this
  have HB : Below w.heap.size w wb := by rw [HW.out]; exact ((Below.refl _ _).alloc (Nat.le_refl _) _).alloc (by simp) _
  have hl := digs3 (n := y) h0 (by omega)
  go_enter Tryz.func93, Tryz.ntmps93
  go_wp2_with fail
  rw [← HW.out]
  refine (l1Int_any y _ h0 (by omega)).mono ?_
  rintro e w1 ⟨rfl, hb1⟩
  obtain ⟨bx0, HBX0⟩ : ∃ bx : ByteArray, Hid (bx = ⟨(Lib.itoa y).toArray⟩) := ⟨_, rfl⟩
  have hbx0 : bx0.size ≤ 10 := by rw [strSz HBX0.out]; exact Nat.le_trans hl.1 (by omega)
  rw [← HBX0.out]
  go_wp2_with fail
  go_ret
  exact ⟨ret_str (by rw [HBX0.out]; exact str_cat _ _), HB.trans (hb1.mono HB.size)⟩
set_option maxHeartbeats 3200000 in
theorem l4Stmt_7 (wd tp : Int) (a1 a2 a3 a4 b1 b2 : Option Addr) (n1 n2 n3 n4 c1 c2 c3 c4 m1 m2 d1 d2 : Nat) (y : Int) (w : World) (h0 : 0 ≤ y) (h1 : y ≤ 9) :
    Calls Tryz.prog 93 #[.agg #[.int .i64 wd, .slice a1 n1 c1, .slice a2 n2 c2, .int .i64 tp, .slice a3 n3 c3, .slice a4 n4 c4], .agg #[.int .i64 7, .int .i64 y, .slice b1 m1 d1, .slice b2 m2 d2]] w fun e w' => e = .returned (.string ⟨([116, 104, 114, 111, 119, 32] ++ Lib.itoa y).toArray⟩) ∧ Below w.heap.size w w' := by
  obtain ⟨wb, HW⟩ : ∃ wb, Hid (wb = (w.alloc (.cells #[.int .i64 wd, .slice a1 n1 c1, .slice a2 n2 c2, .int .i64 tp, .slice a3 n3 c3, .slice a4 n4 c4] 28)).alloc (.cells #[.int .i64 7, .int .i64 y, .slice b1 m1 d1, .slice b2 m2 d2] 76)) := ⟨_, rfl⟩
  have BP : Blk wb w.heap.size 28 [.int .i64 wd, .slice a1 n1 c1, .slice a2 n2 c2, .int .i64 tp, .slice a3 n3 c3, .slice a4 n4 c4] := by rw [HW.out]; exact (Blk.new w _ _).alloc _
  have BS : Blk wb (w.heap.size + 1) 76 [.int .i64 7, .int .i64 y, .slice b1 m1 d1, .slice b2 m2 d2] := by rw [HW.out]; have := Blk.new (w.alloc (.cells #[.int .i64 wd, .slice a1 n1 c1, .slice a2 n2 c2, .int .i64 tp, .slice a3 n3 c3, .slice a4 n4 c4] 28)) 76 [.int .i64 7, .int .i64 y, .slice b1 m1 d1, .slice b2 m2 d2]; simpa using this
  have HB : Below w.heap.size w wb := by rw [HW.out]; exact ((Below.refl _ _).alloc (Nat.le_refl _) _).alloc (by simp) _
  have hl := digs3 (n := y) h0 (by omega)
  go_enter Tryz.func93, Tryz.ntmps93
  go_wp2_with fail
  rw [← HW.out]
  refine (l1Int_any y _ h0 (by omega)).mono ?_
  rintro e w1 ⟨rfl, hb1⟩
  obtain ⟨bx0, HBX0⟩ : ∃ bx : ByteArray, Hid (bx = ⟨(Lib.itoa y).toArray⟩) := ⟨_, rfl⟩
  have hbx0 : bx0.size ≤ 10 := by rw [strSz HBX0.out]; exact Nat.le_trans hl.1 (by omega)
  rw [← HBX0.out]
  go_wp2_with fail
  go_ret
  exact ⟨ret_str (by rw [HBX0.out]; exact str_cat _ _), HB.trans (hb1.mono HB.size)⟩
set_option maxHeartbeats 3200000 in
theorem l4Stmt_9 (wd tp : Int) (a1 a2 a3 a4 b1 b2 : Option Addr) (n1 n2 n3 n4 c1 c2 c3 c4 m1 m2 d1 d2 : Nat) (y : Int) (w : World) (h0 : 0 ≤ y) (h1 : y ≤ 9) :
    Calls Tryz.prog 93 #[.agg #[.int .i64 wd, .slice a1 n1 c1, .slice a2 n2 c2, .int .i64 tp, .slice a3 n3 c3, .slice a4 n4 c4], .agg #[.int .i64 9, .int .i64 y, .slice b1 m1 d1, .slice b2 m2 d2]] w fun e w' => e = .returned (.string ⟨([99, 97, 116, 99, 104, 32] ++ Lib.itoa y).toArray⟩) ∧ Below w.heap.size w w' := by
  obtain ⟨wb, HW⟩ : ∃ wb, Hid (wb = (w.alloc (.cells #[.int .i64 wd, .slice a1 n1 c1, .slice a2 n2 c2, .int .i64 tp, .slice a3 n3 c3, .slice a4 n4 c4] 28)).alloc (.cells #[.int .i64 9, .int .i64 y, .slice b1 m1 d1, .slice b2 m2 d2] 76)) := ⟨_, rfl⟩
  have BP : Blk wb w.heap.size 28 [.int .i64 wd, .slice a1 n1 c1, .slice a2 n2 c2, .int .i64 tp, .slice a3 n3 c3, .slice a4 n4 c4] := by rw [HW.out]; exact (Blk.new w _ _).alloc _
  have BS : Blk wb (w.heap.size + 1) 76 [.int .i64 9, .int .i64 y, .slice b1 m1 d1, .slice b2 m2 d2] := by rw [HW.out]; have := Blk.new (w.alloc (.cells #[.int .i64 wd, .slice a1 n1 c1, .slice a2 n2 c2, .int .i64 tp, .slice a3 n3 c3, .slice a4 n4 c4] 28)) 76 [.int .i64 9, .int .i64 y, .slice b1 m1 d1, .slice b2 m2 d2]; simpa using this
  have HB : Below w.heap.size w wb := by rw [HW.out]; exact ((Below.refl _ _).alloc (Nat.le_refl _) _).alloc (by simp) _
  have hl := digs3 (n := y) h0 (by omega)
  go_enter Tryz.func93, Tryz.ntmps93
  go_wp2_with fail
  rw [← HW.out]
  refine (l1Int_any y _ h0 (by omega)).mono ?_
  rintro e w1 ⟨rfl, hb1⟩
  obtain ⟨bx0, HBX0⟩ : ∃ bx : ByteArray, Hid (bx = ⟨(Lib.itoa y).toArray⟩) := ⟨_, rfl⟩
  have hbx0 : bx0.size ≤ 10 := by rw [strSz HBX0.out]; exact Nat.le_trans hl.1 (by omega)
  rw [← HBX0.out]
  go_wp2_with fail
  go_ret
  exact ⟨ret_str (by rw [HBX0.out]; exact str_cat _ _), HB.trans (hb1.mono HB.size)⟩
set_option maxHeartbeats 3200000 in
theorem l4Stmt_2 (wd tp : Int) (a1 a2 a3 a4 b1 b2 : Option Addr) (n1 n2 n3 n4 c1 c2 c3 c4 m1 m2 d1 d2 : Nat) (y : Int) (w : World) (K0 : List UInt8) (hK0 : K0.length ≤ 320) (hx0 : ∀ w', Below w.heap.size w w' → Calls Tryz.prog 76 #[.agg #[.int .i64 wd, .slice a1 n1 c1, .slice a2 n2 c2, .int .i64 tp, .slice a3 n3 c3, .slice a4 n4 c4], .slice b2 m2 d2] w' fun e w'' => e = .returned (.string ⟨K0.toArray⟩) ∧ Below w'.heap.size w' w'') :
    Calls Tryz.prog 93 #[.agg #[.int .i64 wd, .slice a1 n1 c1, .slice a2 n2 c2, .int .i64 tp, .slice a3 n3 c3, .slice a4 n4 c4], .agg #[.int .i64 2, .int .i64 y, .slice b1 m1 d1, .slice b2 m2 d2]] w fun e w' => e = .returned (.string ⟨([105, 102, 32] ++ K0).toArray⟩) ∧ Below w.heap.size w w' := by
  obtain ⟨wb, HW⟩ : ∃ wb, Hid (wb = (w.alloc (.cells #[.int .i64 wd, .slice a1 n1 c1, .slice a2 n2 c2, .int .i64 tp, .slice a3 n3 c3, .slice a4 n4 c4] 28)).alloc (.cells #[.int .i64 2, .int .i64 y, .slice b1 m1 d1, .slice b2 m2 d2] 76)) := ⟨_, rfl⟩
  have BP : Blk wb w.heap.size 28 [.int .i64 wd, .slice a1 n1 c1, .slice a2 n2 c2, .int .i64 tp, .slice a3 n3 c3, .slice a4 n4 c4] := by rw [HW.out]; exact (Blk.new w _ _).alloc _
  have BS : Blk wb (w.heap.size + 1) 76 [.int .i64 2, .int .i64 y, .slice b1 m1 d1, .slice b2 m2 d2] := by rw [HW.out]; have := Blk.new (w.alloc (.cells #[.int .i64 wd, .slice a1 n1 c1, .slice a2 n2 c2, .int .i64 tp, .slice a3 n3 c3, .slice a4 n4 c4] 28)) 76 [.int .i64 2, .int .i64 y, .slice b1 m1 d1, .slice b2 m2 d2]; simpa using this
  have HB : Below w.heap.size w wb := by rw [HW.out]; exact ((Below.refl _ _).alloc (Nat.le_refl _) _).alloc (by simp) _
  obtain ⟨bx0, HBX0⟩ : ∃ bx : ByteArray, Hid (bx = ⟨K0.toArray⟩) := ⟨_, rfl⟩
  have hbx0 : bx0.size ≤ 320 := by rw [strSz HBX0.out]; exact hK0
  have HX := Lib.hid hx0
  rw [← HBX0.out] at HX
  clear hx0
  have p0 := BP.cell (j := 0) rfl
  have p1 := BP.cell (j := 1) rfl
  have p2 := BP.cell (j := 2) rfl
  have p3 := BP.cell (j := 3) rfl
  have p4 := BP.cell (j := 4) rfl
  have p5 := BP.cell (j := 5) rfl
  have s0 := BS.cell (j := 0) rfl
  have s1 := BS.cell (j := 1) rfl
  have s2 := BS.cell (j := 2) rfl
  have s3 := BS.cell (j := 3) rfl
  go_enter Tryz.func93, Tryz.ntmps93
  go_wp2_with fail
  rw [← HW.out]
  refine (HX.out _ HB).mono ?_
  rintro e w1 ⟨rfl, hb1⟩
  go_wp2_with fail
  go_ret
  exact ⟨ret_str (by rw [HBX0.out]; exact str_cat _ _), HB.trans (hb1.mono HB.size)⟩
set_option maxHeartbeats 3200000 in
theorem l4Stmt_6 (wd tp : Int) (a1 a2 a3 a4 b1 b2 : Option Addr) (n1 n2 n3 n4 c1 c2 c3 c4 m1 m2 d1 d2 : Nat) (y : Int) (w : World) (K0 : List UInt8) (hK0 : K0.length ≤ 320) (hx0 : ∀ w', Below w.heap.size w w' → Calls Tryz.prog 76 #[.agg #[.int .i64 wd, .slice a1 n1 c1, .slice a2 n2 c2, .int .i64 tp, .slice a3 n3 c3, .slice a4 n4 c4], .slice b2 m2 d2] w' fun e w'' => e = .returned (.string ⟨K0.toArray⟩) ∧ Below w'.heap.size w' w'') :
    Calls Tryz.prog 93 #[.agg #[.int .i64 wd, .slice a1 n1 c1, .slice a2 n2 c2, .int .i64 tp, .slice a3 n3 c3, .slice a4 n4 c4], .agg #[.int .i64 6, .int .i64 y, .slice b1 m1 d1, .slice b2 m2 d2]] w fun e w' => e = .returned (.string ⟨([111, 117, 116, 32] ++ K0).toArray⟩) ∧ Below w.heap.size w w' := by
  obtain ⟨wb, HW⟩ : ∃ wb, Hid (wb = (w.alloc (.cells #[.int .i64 wd, .slice a1 n1 c1, .slice a2 n2 c2, .int .i64 tp, .slice a3 n3 c3, .slice a4 n4 c4] 28)).alloc (.cells #[.int .i64 6, .int .i64 y, .slice b1 m1 d1, .slice b2 m2 d2] 76)) := ⟨_, rfl⟩
  have BP : Blk wb w.heap.size 28 [.int .i64 wd, .slice a1 n1 c1, .slice a2 n2 c2, .int .i64 tp, .slice a3 n3 c3, .slice a4 n4 c4] := by rw [HW.out]; exact (Blk.new w _ _).alloc _
  have BS : Blk wb (w.heap.size + 1) 76 [.int .i64 6, .int .i64 y, .slice b1 m1 d1, .slice b2 m2 d2] := by rw [HW.out]; have := Blk.new (w.alloc (.cells #[.int .i64 wd, .slice a1 n1 c1, .slice a2 n2 c2, .int .i64 tp, .slice a3 n3 c3, .slice a4 n4 c4] 28)) 76 [.int .i64 6, .int .i64 y, .slice b1 m1 d1, .slice b2 m2 d2]; simpa using this
  have HB : Below w.heap.size w wb := by rw [HW.out]; exact ((Below.refl _ _).alloc (Nat.le_refl _) _).alloc (by simp) _
  obtain ⟨bx0, HBX0⟩ : ∃ bx : ByteArray, Hid (bx = ⟨K0.toArray⟩) := ⟨_, rfl⟩
  have hbx0 : bx0.size ≤ 320 := by rw [strSz HBX0.out]; exact hK0
  have HX := Lib.hid hx0
  rw [← HBX0.out] at HX
  clear hx0
  have p0 := BP.cell (j := 0) rfl
  have p1 := BP.cell (j := 1) rfl
  have p2 := BP.cell (j := 2) rfl
  have p3 := BP.cell (j := 3) rfl
  have p4 := BP.cell (j := 4) rfl
  have p5 := BP.cell (j := 5) rfl
  have s0 := BS.cell (j := 0) rfl
  have s1 := BS.cell (j := 1) rfl
  have s2 := BS.cell (j := 2) rfl
  have s3 := BS.cell (j := 3) rfl
  go_enter Tryz.func93, Tryz.ntmps93
  go_wp2_with fail
  rw [← HW.out]
  refine (HX.out _ HB).mono ?_
  rintro e w1 ⟨rfl, hb1⟩
  go_wp2_with fail
  go_ret
  exact ⟨ret_str (by rw [HBX0.out]; exact str_cat _ _), HB.trans (hb1.mono HB.size)⟩
set_option maxHeartbeats 3200000 in
theorem l4Stmt_0 (wd tp : Int) (a1 a2 a3 a4 b1 b2 : Option Addr) (n1 n2 n3 n4 c1 c2 c3 c4 m1 m2 d1 d2 : Nat) (y : Int) (w : World) (V : List UInt8) (hV : V.length ≤ 10) (hv : ∀ w', Below w.heap.size w w' → Calls Tryz.prog 140 #[.agg #[.int .i64 wd, .slice a1 n1 c1, .slice a2 n2 c2, .int .i64 tp, .slice a3 n3 c3, .slice a4 n4 c4], .int .i64 y] w' fun e w'' => e = .returned (.string ⟨V.toArray⟩) ∧ Below w'.heap.size w' w'') (K0 : List UInt8) (hK0 : K0.length ≤ 320) (hx0 : ∀ w', Below w.heap.size w w' → Calls Tryz.prog 76 #[.agg #[.int .i64 wd, .slice a1 n1 c1, .slice a2 n2 c2, .int .i64 tp, .slice a3 n3 c3, .slice a4 n4 c4], .slice b2 m2 d2] w' fun e w'' => e = .returned (.string ⟨K0.toArray⟩) ∧ Below w'.heap.size w' w'') :
    Calls Tryz.prog 93 #[.agg #[.int .i64 wd, .slice a1 n1 c1, .slice a2 n2 c2, .int .i64 tp, .slice a3 n3 c3, .slice a4 n4 c4], .agg #[.int .i64 0, .int .i64 y, .slice b1 m1 d1, .slice b2 m2 d2]] w fun e w' => e = .returned (.string ⟨(V ++ ([32, 61, 32] ++ K0)).toArray⟩) ∧ Below w.heap.size w w' := by
  obtain ⟨wb, HW⟩ : ∃ wb, Hid (wb = (w.alloc (.cells #[.int .i64 wd, .slice a1 n1 c1, .slice a2 n2 c2, .int .i64 tp, .slice a3 n3 c3, .slice a4 n4 c4] 28)).alloc (.cells #[.int .i64 0, .int .i64 y, .slice b1 m1 d1, .slice b2 m2 d2] 76)) := ⟨_, rfl⟩
  have BP : Blk wb w.heap.size 28 [.int .i64 wd, .slice a1 n1 c1, .slice a2 n2 c2, .int .i64 tp, .slice a3 n3 c3, .slice a4 n4 c4] := by rw [HW.out]; exact (Blk.new w _ _).alloc _
  have BS : Blk wb (w.heap.size + 1) 76 [.int .i64 0, .int .i64 y, .slice b1 m1 d1, .slice b2 m2 d2] := by rw [HW.out]; have := Blk.new (w.alloc (.cells #[.int .i64 wd, .slice a1 n1 c1, .slice a2 n2 c2, .int .i64 tp, .slice a3 n3 c3, .slice a4 n4 c4] 28)) 76 [.int .i64 0, .int .i64 y, .slice b1 m1 d1, .slice b2 m2 d2]; simpa using this
  have HB : Below w.heap.size w wb := by rw [HW.out]; exact ((Below.refl _ _).alloc (Nat.le_refl _) _).alloc (by simp) _
  obtain ⟨bx0, HBX0⟩ : ∃ bx : ByteArray, Hid (bx = ⟨K0.toArray⟩) := ⟨_, rfl⟩
  have hbx0 : bx0.size ≤ 320 := by rw [strSz HBX0.out]; exact hK0
  obtain ⟨bx1, HBX1⟩ : ∃ bx : ByteArray, Hid (bx = ⟨V.toArray⟩) := ⟨_, rfl⟩
  have hbx1 : bx1.size ≤ 10 := by rw [strSz HBX1.out]; exact hV
  obtain ⟨s1, HS1, z1, k1⟩ := cat_ex bx1 ⟨#[32, 61, 32]⟩ 10 3 hbx1 (Nat.le_refl 3) (by omega)
  obtain ⟨s2, HS2, z2, k2⟩ := cat_ex s1 bx0 (10 + 3) 320 z1 hbx0 (by omega)
  have HC0 : Hid (∀ p : Lat wb, Calls Tryz.prog 76 #[.agg #[.int .i64 wd, .slice a1 n1 c1, .slice a2 n2 c2, .int .i64 tp, .slice a3 n3 c3, .slice a4 n4 c4], .slice b2 m2 d2] p.wd fun e w' => e = .returned (.string bx0) ∧ Below p.wd.heap.size p.wd w') := Lib.hid (fun p => by rw [HBX0.out]; exact hx0 p.wd (HB.trans (p.ok.mono HB.size)))
  have HC1 : Hid (∀ p : Lat wb, Calls Tryz.prog 140 #[.agg #[.int .i64 wd, .slice a1 n1 c1, .slice a2 n2 c2, .int .i64 tp, .slice a3 n3 c3, .slice a4 n4 c4], .int .i64 y] p.wd fun e w' => e = .returned (.string bx1) ∧ Below p.wd.heap.size p.wd w') := Lib.hid (fun p => by rw [HBX1.out]; exact hv p.wd (HB.trans (p.ok.mono HB.size)))
  clear hx0 hv
  have g0 := lat_cell BP.lt (BP.cell (j := 0) rfl)
  have g1 := lat_cell BP.lt (BP.cell (j := 1) rfl)
  have g2 := lat_cell BP.lt (BP.cell (j := 2) rfl)
  have g3 := lat_cell BP.lt (BP.cell (j := 3) rfl)
  have g4 := lat_cell BP.lt (BP.cell (j := 4) rfl)
  have g5 := lat_cell BP.lt (BP.cell (j := 5) rfl)
  have f0 := lat_cell BS.lt (BS.cell (j := 0) rfl)
  have f1 := lat_cell BS.lt (BS.cell (j := 1) rfl)
  have f2 := lat_cell BS.lt (BS.cell (j := 2) rfl)
  have f3 := lat_cell BS.lt (BS.cell (j := 3) rfl)
  go_enter Tryz.func93, Tryz.ntmps93
  go_wp2_with fail
  rw [← HW.out]
  refine wp_region_lat (by kernel_rfl) (by kernel_rfl) ?_
  repeat (quiet_step (first | (go_at_call 76; exact lat_calls (HC0.out _)) | (go_at_call 140; exact lat_calls (HC1.out _))))
  refine wpQuiet_nil ?_
  intro _ hw'
  obtain ⟨⟨wq, hwq⟩, hw''⟩ := hw'
  subst hw''
  go_wp2
  go_ret
  exact ⟨ret_str (by rw [HS2.out, HS1.out, HBX0.out, HBX1.out]; apply ByteArray.ext; simp), HB.trans (hwq.mono HB.size)⟩
set_option maxHeartbeats 3200000 in
theorem l4Stmt_1 (wd tp : Int) (a1 a2 a3 a4 b1 b2 : Option Addr) (n1 n2 n3 n4 c1 c2 c3 c4 m1 m2 d1 d2 : Nat) (y : Int) (w : World) (h0 : 0 ≤ y) (h1 : y ≤ 9) (K0 : List UInt8) (hK0 : K0.length ≤ 320) (hx0 : ∀ w', Below w.heap.size w w' → Calls Tryz.prog 76 #[.agg #[.int .i64 wd, .slice a1 n1 c1, .slice a2 n2 c2, .int .i64 tp, .slice a3 n3 c3, .slice a4 n4 c4], .slice b1 m1 d1] w' fun e w'' => e = .returned (.string ⟨K0.toArray⟩) ∧ Below w'.heap.size w' w'') (K1 : List UInt8) (hK1 : K1.length ≤ 320) (hx1 : ∀ w', Below w.heap.size w w' → Calls Tryz.prog 76 #[.agg #[.int .i64 wd, .slice a1 n1 c1, .slice a2 n2 c2, .int .i64 tp, .slice a3 n3 c3, .slice a4 n4 c4], .slice b2 m2 d2] w' fun e w'' => e = .returned (.string ⟨K1.toArray⟩) ∧ Below w'.heap.size w' w'') :
    Calls Tryz.prog 93 #[.agg #[.int .i64 wd, .slice a1 n1 c1, .slice a2 n2 c2, .int .i64 tp, .slice a3 n3 c3, .slice a4 n4 c4], .agg #[.int .i64 1, .int .i64 y, .slice b1 m1 d1, .slice b2 m2 d2]] w fun e w' => e = .returned (.string ⟨(109 :: (Lib.itoa y ++ (91 :: (K0 ++ ([93, 32, 61, 32] ++ K1))))).toArray⟩) ∧ Below w.heap.size w w' := by
  obtain ⟨wb, HW⟩ : ∃ wb, Hid (wb = (w.alloc (.cells #[.int .i64 wd, .slice a1 n1 c1, .slice a2 n2 c2, .int .i64 tp, .slice a3 n3 c3, .slice a4 n4 c4] 28)).alloc (.cells #[.int .i64 1, .int .i64 y, .slice b1 m1 d1, .slice b2 m2 d2] 76)) := ⟨_, rfl⟩
  have BP : Blk wb w.heap.size 28 [.int .i64 wd, .slice a1 n1 c1, .slice a2 n2 c2, .int .i64 tp, .slice a3 n3 c3, .slice a4 n4 c4] := by rw [HW.out]; exact (Blk.new w _ _).alloc _
  have BS : Blk wb (w.heap.size + 1) 76 [.int .i64 1, .int .i64 y, .slice b1 m1 d1, .slice b2 m2 d2] := by rw [HW.out]; have := Blk.new (w.alloc (.cells #[.int .i64 wd, .slice a1 n1 c1, .slice a2 n2 c2, .int .i64 tp, .slice a3 n3 c3, .slice a4 n4 c4] 28)) 76 [.int .i64 1, .int .i64 y, .slice b1 m1 d1, .slice b2 m2 d2]; simpa using this
  have HB : Below w.heap.size w wb := by rw [HW.out]; exact ((Below.refl _ _).alloc (Nat.le_refl _) _).alloc (by simp) _
  have hl := digs3 (n := y) h0 (by omega)
  obtain ⟨bx0, HBX0⟩ : ∃ bx : ByteArray, Hid (bx = ⟨K0.toArray⟩) := ⟨_, rfl⟩
  have hbx0 : bx0.size ≤ 320 := by rw [strSz HBX0.out]; exact hK0
  obtain ⟨bx1, HBX1⟩ : ∃ bx : ByteArray, Hid (bx = ⟨K1.toArray⟩) := ⟨_, rfl⟩
  have hbx1 : bx1.size ≤ 320 := by rw [strSz HBX1.out]; exact hK1
  obtain ⟨bx2, HBX2⟩ : ∃ bx : ByteArray, Hid (bx = ⟨(Lib.itoa y).toArray⟩) := ⟨_, rfl⟩
  have hbx2 : bx2.size ≤ 10 := by rw [strSz HBX2.out]; exact Nat.le_trans hl.1 (by omega)
  obtain ⟨s1, HS1, z1, k1⟩ := cat_ex ⟨#[109]⟩ bx2 1 10 (Nat.le_refl 1) hbx2 (by omega)
  obtain ⟨s2, HS2, z2, k2⟩ := cat_ex s1 ⟨#[91]⟩ (1 + 10) 1 z1 (Nat.le_refl 1) (by omega)
  obtain ⟨s3, HS3, z3, k3⟩ := cat_ex s2 bx0 (1 + 10 + 1) 320 z2 hbx0 (by omega)
  obtain ⟨s4, HS4, z4, k4⟩ := cat_ex s3 ⟨#[93, 32, 61, 32]⟩ (1 + 10 + 1 + 320) 4 z3 (Nat.le_refl 4) (by omega)
  obtain ⟨s5, HS5, z5, k5⟩ := cat_ex s4 bx1 (1 + 10 + 1 + 320 + 4) 320 z4 hbx1 (by omega)
  have HC0 : Hid (∀ p : Lat wb, Calls Tryz.prog 76 #[.agg #[.int .i64 wd, .slice a1 n1 c1, .slice a2 n2 c2, .int .i64 tp, .slice a3 n3 c3, .slice a4 n4 c4], .slice b1 m1 d1] p.wd fun e w' => e = .returned (.string bx0) ∧ Below p.wd.heap.size p.wd w') := Lib.hid (fun p => by rw [HBX0.out]; exact hx0 p.wd (HB.trans (p.ok.mono HB.size)))
  have HC1 : Hid (∀ p : Lat wb, Calls Tryz.prog 76 #[.agg #[.int .i64 wd, .slice a1 n1 c1, .slice a2 n2 c2, .int .i64 tp, .slice a3 n3 c3, .slice a4 n4 c4], .slice b2 m2 d2] p.wd fun e w' => e = .returned (.string bx1) ∧ Below p.wd.heap.size p.wd w') := Lib.hid (fun p => by rw [HBX1.out]; exact hx1 p.wd (HB.trans (p.ok.mono HB.size)))
  have HC2 : Hid (∀ p : Lat wb, Calls Tryz.prog 92 #[.int .i64 y] p.wd fun e w' => e = .returned (.string bx2) ∧ Below p.wd.heap.size p.wd w') := Lib.hid (fun p => by rw [HBX2.out]; exact l1Int_any y p.wd h0 (by omega))
  clear hx0 hx1
  have g0 := lat_cell BP.lt (BP.cell (j := 0) rfl)
  have g1 := lat_cell BP.lt (BP.cell (j := 1) rfl)
  have g2 := lat_cell BP.lt (BP.cell (j := 2) rfl)
  have g3 := lat_cell BP.lt (BP.cell (j := 3) rfl)
  have g4 := lat_cell BP.lt (BP.cell (j := 4) rfl)
  have g5 := lat_cell BP.lt (BP.cell (j := 5) rfl)
  have f0 := lat_cell BS.lt (BS.cell (j := 0) rfl)
  have f1 := lat_cell BS.lt (BS.cell (j := 1) rfl)
  have f2 := lat_cell BS.lt (BS.cell (j := 2) rfl)
  have f3 := lat_cell BS.lt (BS.cell (j := 3) rfl)
  go_enter Tryz.func93, Tryz.ntmps93
  go_wp2_with fail
  rw [← HW.out]
  refine wp_region_lat (by kernel_rfl) (by kernel_rfl) ?_
  repeat (quiet_step (first | (go_at_call 92; exact lat_calls (HC2.out _)) | (go_at_call 76; first | with_reducible exact lat_calls (HC0.out _) | with_reducible exact lat_calls (HC1.out _))))
  refine wpQuiet_nil ?_
  intro _ hw'
  obtain ⟨⟨wq, hwq⟩, hw''⟩ := hw'
  subst hw''
  go_wp2
  go_ret
  exact ⟨ret_str (by rw [HS5.out, HS4.out, HS3.out, HS2.out, HS1.out, HBX0.out, HBX1.out, HBX2.out]; apply ByteArray.ext; simp), HB.trans (hwq.mono HB.size)⟩
theorem l4Stmt_any (r : PRow) (p : Prg) (s : Stm) (b1 b2 : Option Addr) (m1 m2 d1 d2 : Nat) (w : World) (h : ProgAt w r p) (hz : codeB p = 0) (hs : stmtB (2 ^ p.width.toNat) (p.lows.length + p.secrets.length) p.temps.toNat p.arrays.length s = true) (h1 : Terms w b1 m1 s.at_) (h2 : Terms w b2 m2 s.exp) (hc1 : m1 ≤ d1) (hc2 : m2 ≤ d2) :
    Calls Tryz.prog 93 #[progV r, .agg #[.int .i64 s.op, .int .i64 s.n, .slice b1 m1 d1, .slice b2 m2 d2]] w fun e w' => e = .returned (.string ⟨(stmS p.lows.length p.secrets.length s).toArray⟩) ∧ Below w.heap.size w w' := by
  have hE : ∀ (a : Option Addr) (n c : Nat) (ts : List Tm), Terms w a n ts → n ≤ c → standB p ts = true → ∀ w', Below w.heap.size w w' → Calls Tryz.prog 76 #[progV r, .slice a n c] w' fun e w'' => e = .returned (.string ⟨(expS p.lows.length p.secrets.length ts).toArray⟩) ∧ Below w'.heap.size w' w'' := fun a n c ts ht hc hb w' hw => l4Exp_stand r p a n c ts w' (h.below hw) hz hb (ht.below (Nat.le_refl _) hw) hc
  obtain ⟨_, _, q3, q4, q5, q6, q7, _⟩ := code_head hz
  have hn := code_names h hz
  have e1 := h.lows.1
  have e2 := h.secrets.1
  have hV : ∀ (n : Int), 0 ≤ n → n < 256 → ∀ w', Below w.heap.size w w' → Calls Tryz.prog 140 #[progV r, .int .i64 n] w' fun e w'' => e = .returned (.string ⟨(varS p.lows.length p.secrets.length n).toArray⟩) ∧ Below w'.heap.size w' w'' := fun n g0 g1 w' _ => by rw [e1, e2]; exact l4Var_any r n w' g0 g1 hn.lows hn.secrets
  obtain ⟨wd, ⟨a1, n1, c1⟩, ⟨a2, n2, c2⟩, tp, ⟨a3, n3, c3⟩, ⟨a4, n4, c4⟩, rows⟩ := r
  obtain ⟨x, y, ts, us⟩ := s
  have hc := stm_cases hs
  simp only [] at hc h1 h2 ⊢
  rcases hc with ⟨rfl, i1, i2, g1⟩ | ⟨rfl, i1, i2, g1, g2⟩ | ⟨rfl, g1⟩ | rfl | rfl | ⟨rfl, i1, i2⟩ | ⟨rfl, g1⟩ | ⟨rfl, i1, i2⟩ | rfl | ⟨rfl, i1, i2⟩
  · exact l4Stmt_0 wd tp a1 a2 a3 a4 b1 b2 n1 n2 n3 n4 c1 c2 c3 c4 m1 m2 d1 d2 y w _ (by have := varS_len (L := p.lows.length) (S := p.secrets.length) (n := y) (by omega) (by omega); omega) (hV y (by omega) (by omega)) _ (expS_len g1) (hE b2 m2 d2 us h2 hc2 g1)
  · exact l4Stmt_1 wd tp a1 a2 a3 a4 b1 b2 n1 n2 n3 n4 c1 c2 c3 c4 m1 m2 d1 d2 y w i1 (by omega) _ (expS_len g2) (hE b1 m1 d1 ts h1 hc1 g2) _ (expS_len g1) (hE b2 m2 d2 us h2 hc2 g1)
  · exact l4Stmt_2 wd tp a1 a2 a3 a4 b1 b2 n1 n2 n3 n4 c1 c2 c3 c4 m1 m2 d1 d2 y w _ (expS_len g1) (hE b2 m2 d2 us h2 hc2 g1)
  · exact l4Stmt_3 wd tp a1 a2 a3 a4 b1 b2 n1 n2 n3 n4 c1 c2 c3 c4 m1 m2 d1 d2 y w
  · exact l4Stmt_4 wd tp a1 a2 a3 a4 b1 b2 n1 n2 n3 n4 c1 c2 c3 c4 m1 m2 d1 d2 y w
  · exact l4Stmt_5 wd tp a1 a2 a3 a4 b1 b2 n1 n2 n3 n4 c1 c2 c3 c4 m1 m2 d1 d2 y w i1 i2
  · exact l4Stmt_6 wd tp a1 a2 a3 a4 b1 b2 n1 n2 n3 n4 c1 c2 c3 c4 m1 m2 d1 d2 y w _ (expS_len g1) (hE b2 m2 d2 us h2 hc2 g1)
  · exact l4Stmt_7 wd tp a1 a2 a3 a4 b1 b2 n1 n2 n3 n4 c1 c2 c3 c4 m1 m2 d1 d2 y w i1 i2
  · exact l4Stmt_8 wd tp a1 a2 a3 a4 b1 b2 n1 n2 n3 n4 c1 c2 c3 c4 m1 m2 d1 d2 y w
  · exact l4Stmt_9 wd tp a1 a2 a3 a4 b1 b2 n1 n2 n3 n4 c1 c2 c3 c4 m1 m2 d1 d2 y w i1 i2
end Go.Proofs.YtjboghmcmlkpoaaGreatDoor
/- The contract of the model's ShowProg (written by tools/gen_specshowprog.py). -/
namespace Go.Proofs.YtjboghmcmlkpoaaGreatDoor
open Go.RowKit

theorem prog_no {p : Prg} (h : codeB p ≠ 0) : progSB p = [] := by unfold progSB; rw [if_neg h]
theorem prog_yes {p : Prg} (h : codeB p = 0) : progSB p = progS p := by unfold progSB; rw [if_pos h]
theorem tmAt_in {ts : List Tm} {k : Nat} {x y : Int} (h : k < ts.length) (hz : Hid (tmAt ts k = (x, y))) : (x, y) ∈ ts := by rw [← hz.out]; exact tmAt_mem h
theorem tm_flat (f : Tm → List UInt8) {ts : List Tm} {k : Nat} {x y : Int} (h : k < ts.length) (hz : Hid (tmAt ts k = (x, y))) : (ts.take (k + 1)).flatMap f = (ts.take k).flatMap f ++ f (x, y) := by
  rw [flatMap_succ f ts (0, 0) k h, ← hz.out]; rfl
theorem ints_in {zs : List Int} {k : Nat} {z : Int} (h : k < zs.length) (hz : Hid (z = zs.getD k 0)) : z ∈ zs := by rw [hz.out]; exact getD_mem h
theorem ints_flat (f : Int → List UInt8) {zs : List Int} {k : Nat} {z : Int} (h : k < zs.length) (hz : Hid (z = zs.getD k 0)) : (zs.take (k + 1)).flatMap f = (zs.take k).flatMap f ++ f z := by
  rw [flatMap_succ f zs 0 k h, ← hz.out]
theorem st_flat (f : Stm → List UInt8) {ss : List Stm} {k : Nat} {s : Stm} (h : k < ss.length) (hz : Hid (stAt ss k = s)) : (ss.take (k + 1)).flatMap f = (ss.take k).flatMap f ++ f s := by
  rw [flatMap_succ f ss default k h, ← hz.out]; rfl
/-- A right program's text, part by part: its lengths. -/
structure PartLens (p : Prg) : Prop where
  width : (widthS p.width).length ≤ 20
  lows : ∀ k, ((p.lows.take k).flatMap lowS).length ≤ 30
  secrets : ∀ k, ((p.secrets.take k).flatMap secretS).length ≤ 60
  temps : (tempsS p.temps).length ≤ 20
  arrays : ∀ k, ((p.arrays.take k).flatMap arrayS).length ≤ 20
  body : ∀ k, ((p.body.take k).flatMap (lineS p.lows.length p.secrets.length)).length ≤ 28040
theorem part_lens {p : Prg} (hz : codeB p = 0) : PartLens p := by
  obtain ⟨h1, h2, h3, h4, h5, h6, h7, h8⟩ := code_head hz
  obtain ⟨g1, g2, g3, g4⟩ := code_parts hz
  refine ⟨?_, fun k => ?_, fun k => ?_, ?_, fun k => ?_, fun k => ?_⟩
  · have := digs3 (n := p.width) (by omega) (by omega); simp [widthS]; omega
  · have := flatMap_take_len lowS p.lows 10 k (fun x hx => lowS_len (g1 x hx)); omega
  · have := flatMap_take_len secretS p.secrets 20 k (fun x hx => secretS_len (g2 x hx)); omega
  · have := digs3 (n := p.temps) (by omega) (by omega); simp [tempsS]; omega
  · have := flatMap_take_len arrayS p.arrays 10 k (fun x hx => arrayS_len (g3 x hx)); omega
  · have := flatMap_take_len (lineS p.lows.length p.secrets.length) p.body 701 k (fun x hx => by have := stm_len hz (g4 x hx); simp [lineS]; omega); omega
set_option maxRecDepth 20000 in
set_option maxHeartbeats 12800000 in
theorem specShowProg_any (r : PRow) (p : Prg) (w : World) (h : ProgAt w r p) (hcap : Caps r) :
    Calls Tryz.prog 37 #[progV r] w fun e w' => e = .returned (.string ⟨(progSB p).toArray⟩) ∧ Below w.heap.size w w' := by
  have HPO : Hid (∀ w', Below w.heap.size w w' → Calls Tryz.prog 12 #[progV r] w' fun e w'' => e = .returned (.bool (codeB p == 0)) ∧ Below w'.heap.size w' w'') := Lib.hid (fun w' hw => specProgOk_any r p w' (h.below hw))
  by_cases hz : codeB p = 0
  case neg =>
    rw [prog_no hz]
    have hzz : (codeB p == 0) = false := by simpa using hz
    rw [hzz] at HPO
    obtain ⟨wd, ⟨a1, n1, c1⟩, ⟨a2, n2, c2⟩, tp, ⟨a3, n3, c3⟩, ⟨a4, n4, c4⟩, rows⟩ := r
    clear h hz hzz hcap
    show Calls Tryz.prog 37 #[.agg #[.int .i64 wd, .slice a1 n1 c1, .slice a2 n2 c2, .int .i64 tp, .slice a3 n3 c3, .slice a4 n4 c4]] w _
    have HB : Below w.heap.size w (w.alloc (.cells #[.int .i64 wd, .slice a1 n1 c1, .slice a2 n2 c2, .int .i64 tp, .slice a3 n3 c3, .slice a4 n4 c4] 28)) := (Below.refl _ _).alloc (Nat.le_refl _) _
    go_enter Tryz.func37, Tryz.ntmps37
    go_wp2_with fail
    refine (HPO.out _ HB).mono ?_
    rintro e w1 ⟨rfl, hb1⟩
    have HB := HB.trans (hb1.mono HB.size)
    go_wp2
    go_ret
    exact ⟨rfl, HB⟩
  have hzz : (codeB p == 0) = true := by simpa using hz
  rw [hzz] at HPO
  rw [prog_yes hz]
  obtain ⟨q1, q2, q3, q4, q5, q6, q7, q8⟩ := code_head hz
  obtain ⟨g1, g2, g3, g4⟩ := code_parts hz
  have PL := Lib.hid (part_lens hz)
  have G1 := Lib.hid g1
  have G2 := Lib.hid g2
  have G3 := Lib.hid g3
  have HST : Hid (∀ k x y ba m1 d1 bb m2 d2 ts us, k < p.body.length → stAt p.body k = ⟨x, y, ts, us⟩ → m1 ≤ d1 → m2 ≤ d2 → ∀ w', Below w.heap.size w w' → Terms w' ba m1 ts → Terms w' bb m2 us → Calls Tryz.prog 93 #[progV r, .agg #[.int .i64 x, .int .i64 y, .slice ba m1 d1, .slice bb m2 d2]] w' fun e w'' => e = .returned (.string ⟨(stmS p.lows.length p.secrets.length ⟨x, y, ts, us⟩).toArray⟩) ∧ Below w'.heap.size w' w'') := Lib.hid (fun k x y ba m1 d1 bb m2 d2 ts us hk e i1 i2 w' hw t1 t2 => l4Stmt_any r p ⟨x, y, ts, us⟩ ba bb m1 m2 d1 d2 w' (h.below hw) hz (by rw [← e]; exact g4 _ (stAt_mem hk)) t1 t2 i1 i2)
  have HSL : Hid (∀ k, k < p.body.length → (stmS p.lows.length p.secrets.length (stAt p.body k)).length ≤ 700) := Lib.hid (fun k hk => stm_len hz (g4 _ (stAt_mem hk)))
  obtain ⟨wd, ⟨a1, n1, c1⟩, ⟨a2, n2, c2⟩, tp, ⟨a3, n3, c3⟩, ⟨a4, n4, c4⟩, rows⟩ := r
  obtain ⟨pw, pl, ps, pt, pa, pb⟩ := p
  have HPA := Lib.hid h
  have e1 := h.width
  have e2 := h.temps
  simp only [] at e1 e2 q1 q2 q3 q4 q5 q6 q7 q8 G1 G2 G3 HST HSL
  subst e1 e2
  have L1 := Lib.hid h.lows.1
  have L2 := Lib.hid h.secrets.1
  have L3 := Lib.hid h.arrays.1
  have L4 := Lib.hid h.body.2.1
  simp only [] at L1 L2 L3 L4
  have hn1 : n1 ≤ 3 := by rw [← L1.out]; exact q3
  have hn2 : n2 ≤ 3 := by rw [← L2.out]; exact q4
  have hn3 : n3 ≤ 2 := by rw [← L3.out]; exact q7
  have hn4 : n4 ≤ 40 := by rw [← L4.out]; exact q8
  have HCAP := Lib.hid hcap
  clear h hz hzz hcap g1 g2 g3 g4 q3 q4 q7 q8
  show Calls Tryz.prog 37 #[.agg #[.int .i64 wd, .slice a1 n1 c1, .slice a2 n2 c2, .int .i64 tp, .slice a3 n3 c3, .slice a4 n4 c4]] w _
  obtain ⟨wa, HW⟩ : ∃ wa, Hid (wa = w.alloc (.cells #[.int .i64 wd, .slice a1 n1 c1, .slice a2 n2 c2, .int .i64 tp, .slice a3 n3 c3, .slice a4 n4 c4] 28)) := ⟨_, rfl⟩
  have BP : Blk wa w.heap.size 28 [.int .i64 wd, .slice a1 n1 c1, .slice a2 n2 c2, .int .i64 tp, .slice a3 n3 c3, .slice a4 n4 c4] := by rw [HW.out]; exact Blk.new w _ _
  have HB : Below w.heap.size w wa := by rw [HW.out]; exact (Below.refl _ _).alloc (Nat.le_refl _) _
  obtain ⟨R, HR⟩ : ∃ R, Hid (progS ⟨wd, pl, ps, tp, pa, pb⟩ = R) := ⟨_, rfl⟩
  rw [HR.out]
  go_enter Tryz.func37, Tryz.ntmps37
  go_wp2_with fail
  rw [← HW.out]
  refine (HPO.out _ HB).mono ?_
  rintro e w1 ⟨rfl, hb1⟩
  have BP := BP.below hb1 BP.lt
  have HB := HB.trans (hb1.mono HB.size)
  clear hb1 HW HPO
  have t0 := BP.cell (j := 0) rfl
  have t1 := BP.cell (j := 1) rfl
  have t2 := BP.cell (j := 2) rfl
  have t3 := BP.cell (j := 3) rfl
  have t4 := BP.cell (j := 4) rfl
  have t5 := BP.cell (j := 5) rfl
  clear t1 t2 t3 t4 t5
  go_wp2_with fail
  refine (l1Int_any wd _ (by omega) (by omega)).mono ?_
  rintro e w2 ⟨rfl, hb2⟩
  have BP := BP.below hb2 BP.lt
  have HB := HB.trans (hb2.mono HB.size)
  clear hb2 t0
  obtain ⟨bt0, HBT0⟩ : ∃ bt : ByteArray, Hid (bt = ⟨(Lib.itoa wd).toArray⟩) := ⟨_, rfl⟩
  have hbt0 : bt0.size ≤ 3 := by rw [strSz HBT0.out]; exact (digs3 (by omega) (by omega)).1
  rw [← HBT0.out]
  obtain ⟨s1, HS1, z1, k1⟩ := cat_ex ⟨#[119, 105, 100, 116, 104, 32]⟩ bt0 (6) (3) (Nat.le_refl 6) hbt0 (by omega)
  obtain ⟨s2, HS2, z2, k2⟩ := cat_ex s1 ⟨#[10]⟩ (6 + 3) (1) z1 (Nat.le_refl 1) (by omega)
  go_wp2_with fail
  obtain ⟨P0, HP0⟩ : ∃ P0, Hid (widthS wd = P0) := ⟨_, rfl⟩
  have hP0 : P0.length ≤ 20 := by rw [← HP0.out]; exact PL.out.width
  have HE0 : Hid (s2 = (⟨P0.toArray⟩ : ByteArray)) := Lib.hid (by rw [HS2.out, HS1.out, HBT0.out, ← HP0.out]; apply ByteArray.ext; simp [widthS])
  rw [HE0.out]
  go_loopw [3, 4] (fun sv iv wr => ∃ k : Nat, k ≤ n1 ∧ iv = .int .i64 (k : Int) ∧ sv = .string ⟨(P0 ++ (pl.take k).flatMap (lowS)).toArray⟩ ∧ Below w.heap.size w wr ∧ Blk wr w.heap.size 28 [.int .i64 wd, .slice a1 n1 c1, .slice a2 n2 c2, .int .i64 tp, .slice a3 n3 c3, .slice a4 n4 c4]) (fun _ iv _ => n1 - (intOf iv).toNat)
  case atStart => exact ⟨0, Nat.zero_le _, rfl, by simp, HB, BP⟩
  case round =>
    clear HB BP
    obtain ⟨k, hk, rfl, rfl, HB, BP⟩ := hrel
    by_cases hlt : k < n1
    · skip
      obtain ⟨X, HX⟩ : ∃ X, Hid (P0 ++ (pl.take k).flatMap (lowS) = X) := ⟨_, rfl⟩
      have hX : X.length ≤ 60 := by rw [← HX.out, List.length_append]; have := PL.out.lows k; simp only [] at this; omega
      rw [HX.out]
      obtain ⟨sb, HSB⟩ : ∃ sb : ByteArray, Hid (sb = ⟨X.toArray⟩) := ⟨_, rfl⟩
      have hsb : sb.size ≤ 60 := by rw [strSz HSB.out]; exact hX
      rw [← HSB.out]
      obtain ⟨b, o, x, y, ea, hb, hxy, hin1, hin2, hc1, hc2⟩ := ((HPA.out.below HB).lows).at_ hlt
      simp only [] at ea
      subst ea
      have gx := G1.out (x, y) (tmAt_in (by rw [L1.out]; exact hlt) hxy)
      simp only [] at gx
      have HF := Lib.hid (tm_flat lowS (by rw [L1.out]; exact hlt) hxy)
      obtain ⟨bt0, HBT0⟩ : ∃ bt : ByteArray, Hid (bt = ⟨(Lib.itoa x).toArray⟩) := ⟨_, rfl⟩
      have hbt0 : bt0.size ≤ 3 := by rw [strSz HBT0.out]; exact (digs3 (by omega) (by omega)).1
      obtain ⟨s1, HS1, z1, k1⟩ := cat_ex sb ⟨#[108, 111, 119, 32]⟩ (60) (4) hsb (Nat.le_refl 4) (by omega)
      obtain ⟨s2, HS2, z2, k2⟩ := cat_ex s1 bt0 (60 + 4) (3) z1 hbt0 (by omega)
      obtain ⟨s3, HS3, z3, k3⟩ := cat_ex s2 ⟨#[10]⟩ (60 + 4 + 3) (1) z2 (Nat.le_refl 1) (by omega)
      have t1 := BP.cell (j := 1) rfl
      go_wp2_with fail
      refine (l1Int_any x _ (by omega) (by omega)).mono ?_
      rintro e w3 ⟨rfl, hb3⟩
      rw [← HBT0.out]
      have BP := BP.below hb3 BP.lt
      have HB := HB.trans (hb3.mono HB.size)
      clear t1 hb3 hc1 hc2
      go_wp2
      go_roundw
      case rel => exact ⟨k + 1, by omega, by go_num, str_eq (by rw [HS3.out, HS2.out, HS1.out, HSB.out, HBT0.out, HF.out, ← List.append_assoc, HX.out]; apply ByteArray.ext; simp [lowS]), HB, BP⟩
      case measure => simp [intOf]; omega
    · obtain rfl : n1 = k := by omega
      have hall : pl.take n1 = pl := List.take_of_length_le (by rw [L1.out]; exact Nat.le_refl _)
      rw [hall]
      obtain ⟨P1, HP1⟩ : ∃ X, Hid (P0 ++ pl.flatMap (lowS) = X) := ⟨_, rfl⟩
      have hP1 : P1.length ≤ 60 := by rw [← HP1.out, List.length_append]; have := hall; have := PL.out.lows n1; simp only [] at this; rw [hall] at this; omega
      rw [HP1.out]
      clear hlt hall
      obtain ⟨wqP1, HQ⟩ : ∃ wq, wq = wr := ⟨_, rfl⟩
      subst HQ
      have t1 := BP.cell (j := 1) rfl
      go_wp2_with fail
      clear t1
      go_loopw [3, 5] (fun sv iv wr => ∃ k : Nat, k ≤ n2 ∧ iv = .int .i64 (k : Int) ∧ sv = .string ⟨(P1 ++ (ps.take k).flatMap (secretS)).toArray⟩ ∧ Below w.heap.size w wr ∧ Blk wr w.heap.size 28 [.int .i64 wd, .slice a1 n1 c1, .slice a2 n2 c2, .int .i64 tp, .slice a3 n3 c3, .slice a4 n4 c4]) (fun _ iv _ => n2 - (intOf iv).toNat)
      case atStart => exact ⟨0, Nat.zero_le _, rfl, by simp, HB, BP⟩
      case round =>
        clear HB BP
        obtain ⟨k, hk, rfl, rfl, HB, BP⟩ := hrel
        by_cases hlt : k < n2
        · skip
          obtain ⟨X, HX⟩ : ∃ X, Hid (P1 ++ (ps.take k).flatMap (secretS) = X) := ⟨_, rfl⟩
          have hX : X.length ≤ 140 := by rw [← HX.out, List.length_append]; have := PL.out.secrets k; simp only [] at this; omega
          rw [HX.out]
          obtain ⟨sb, HSB⟩ : ∃ sb : ByteArray, Hid (sb = ⟨X.toArray⟩) := ⟨_, rfl⟩
          have hsb : sb.size ≤ 140 := by rw [strSz HSB.out]; exact hX
          rw [← HSB.out]
          obtain ⟨b, o, x, y, ea, hb, hxy, hin1, hin2, hc1, hc2⟩ := ((HPA.out.below HB).secrets).at_ hlt
          simp only [] at ea
          subst ea
          have gx := G2.out (x, y) (tmAt_in (by rw [L2.out]; exact hlt) hxy)
          simp only [] at gx
          have HF := Lib.hid (tm_flat secretS (by rw [L2.out]; exact hlt) hxy)
          obtain ⟨bt0, HBT0⟩ : ∃ bt : ByteArray, Hid (bt = ⟨(Lib.itoa x).toArray⟩) := ⟨_, rfl⟩
          have hbt0 : bt0.size ≤ 3 := by rw [strSz HBT0.out]; exact (digs3 (by omega) (by omega)).1
          obtain ⟨bt1, HBT1⟩ : ∃ bt : ByteArray, Hid (bt = ⟨(Lib.itoa y).toArray⟩) := ⟨_, rfl⟩
          have hbt1 : bt1.size ≤ 3 := by rw [strSz HBT1.out]; exact (digs3 (by omega) (by omega)).1
          obtain ⟨s1, HS1, z1, k1⟩ := cat_ex sb ⟨#[115, 101, 99, 114, 101, 116, 32]⟩ (140) (7) hsb (Nat.le_refl 7) (by omega)
          obtain ⟨s2, HS2, z2, k2⟩ := cat_ex s1 bt0 (140 + 7) (3) z1 hbt0 (by omega)
          obtain ⟨s3, HS3, z3, k3⟩ := cat_ex s2 ⟨#[32]⟩ (140 + 7 + 3) (1) z2 (Nat.le_refl 1) (by omega)
          obtain ⟨s4, HS4, z4, k4⟩ := cat_ex s3 bt1 (140 + 7 + 3 + 1) (3) z3 hbt1 (by omega)
          obtain ⟨s5, HS5, z5, k5⟩ := cat_ex s4 ⟨#[10]⟩ (140 + 7 + 3 + 1 + 3) (1) z4 (Nat.le_refl 1) (by omega)
          have HC0 : Hid (∀ p : Lat wr, Calls Tryz.prog 92 #[.int .i64 x] p.wd fun e w' => e = .returned (.string bt0) ∧ Below p.wd.heap.size p.wd w') := Lib.hid (fun p => by rw [HBT0.out]; exact l1Int_any x p.wd (by omega) (by omega))
          have HC1 : Hid (∀ p : Lat wr, Calls Tryz.prog 92 #[.int .i64 y] p.wd fun e w' => e = .returned (.string bt1) ∧ Below p.wd.heap.size p.wd w') := Lib.hid (fun p => by rw [HBT1.out]; exact l1Int_any y p.wd (by omega) (by omega))
          have t2 := BP.cell (j := 2) rfl
          have f2 := lat_cell BP.lt t2
          have f3 := lat_cell hb hc1
          have f4 := lat_cell hb hc2
          go_wp2_with fail
          refine wp_region_lat (by kernel_rfl) (by kernel_rfl) ?_
          repeat (quiet_step ((go_at_call 92; first | with_reducible exact lat_calls (HC0.out _) | with_reducible exact lat_calls (HC1.out _))))
          refine wpQuiet_nil ?_
          intro _ hw'
          obtain ⟨⟨wq, hwq⟩, hw''⟩ := hw'
          subst hw''
          have BP := BP.below hwq BP.lt
          have HB := HB.trans (hwq.mono HB.size)
          clear t2 f2 f3 f4 hc1 hc2 hwq
          go_wp2
          go_roundw
          case rel => exact ⟨k + 1, by omega, by go_num, str_eq (by rw [HS5.out, HS4.out, HS3.out, HS2.out, HS1.out, HSB.out, HBT0.out, HBT1.out, HF.out, ← List.append_assoc, HX.out]; apply ByteArray.ext; simp [secretS]), HB, BP⟩
          case measure => simp [intOf]; omega
        · obtain rfl : n2 = k := by omega
          have hall : ps.take n2 = ps := List.take_of_length_le (by rw [L2.out]; exact Nat.le_refl _)
          rw [hall]
          obtain ⟨P2, HP2⟩ : ∃ X, Hid (P1 ++ ps.flatMap (secretS) = X) := ⟨_, rfl⟩
          have hP2 : P2.length ≤ 140 := by rw [← HP2.out, List.length_append]; have := hall; have := PL.out.secrets n2; simp only [] at this; rw [hall] at this; omega
          rw [HP2.out]
          clear hlt hall
          obtain ⟨wqP2, HQ⟩ : ∃ wq, wq = wr := ⟨_, rfl⟩
          subst HQ
          obtain ⟨sb, HSB⟩ : ∃ sb : ByteArray, Hid (sb = ⟨P2.toArray⟩) := ⟨_, rfl⟩
          have hsb : sb.size ≤ 140 := by rw [strSz HSB.out]; exact hP2
          rw [← HSB.out]
          obtain ⟨bt1, HBT1⟩ : ∃ bt : ByteArray, Hid (bt = ⟨(Lib.itoa tp).toArray⟩) := ⟨_, rfl⟩
          have hbt1 : bt1.size ≤ 3 := by rw [strSz HBT1.out]; exact (digs3 (by omega) (by omega)).1
          obtain ⟨s1, HS1, z1, k1⟩ := cat_ex sb ⟨#[116, 101, 109, 112, 115, 32]⟩ (140) (6) hsb (Nat.le_refl 6) (by omega)
          obtain ⟨s2, HS2, z2, k2⟩ := cat_ex s1 bt1 (140 + 6) (3) z1 hbt1 (by omega)
          obtain ⟨s3, HS3, z3, k3⟩ := cat_ex s2 ⟨#[10]⟩ (140 + 6 + 3) (1) z2 (Nat.le_refl 1) (by omega)
          have t2 := BP.cell (j := 2) rfl
          have t3 := BP.cell (j := 3) rfl
          go_wp2_with fail
          refine (l1Int_any tp _ (by omega) (by omega)).mono ?_
          rintro e w5 ⟨rfl, hb5⟩
          rw [← HBT1.out]
          have BP := BP.below hb5 BP.lt
          have HB := HB.trans (hb5.mono HB.size)
          clear t2 t3 hb5
          go_wp2_with fail
          obtain ⟨P3, HP3⟩ : ∃ X, Hid (P2 ++ tempsS tp = X) := ⟨_, rfl⟩
          have hP3 : P3.length ≤ 160 := by rw [← HP3.out, List.length_append]; have := PL.out.temps; simp only [] at this; omega
          have HE3 : Hid (s3 = (⟨P3.toArray⟩ : ByteArray)) := Lib.hid (by rw [HS3.out, HS2.out, HS1.out, HSB.out, HBT1.out, ← HP3.out]; apply ByteArray.ext; simp [tempsS])
          rw [HE3.out]
          go_loopw [3, 6] (fun sv iv wr => ∃ k : Nat, k ≤ n3 ∧ iv = .int .i64 (k : Int) ∧ sv = .string ⟨(P3 ++ (pa.take k).flatMap (arrayS)).toArray⟩ ∧ Below w.heap.size w wr ∧ Blk wr w.heap.size 28 [.int .i64 wd, .slice a1 n1 c1, .slice a2 n2 c2, .int .i64 tp, .slice a3 n3 c3, .slice a4 n4 c4]) (fun _ iv _ => n3 - (intOf iv).toNat)
          case atStart => exact ⟨0, Nat.zero_le _, rfl, by simp, HB, BP⟩
          case round =>
            clear HB BP
            obtain ⟨k, hk, rfl, rfl, HB, BP⟩ := hrel
            by_cases hlt : k < n3
            · skip
              obtain ⟨X, HX⟩ : ∃ X, Hid (P3 ++ (pa.take k).flatMap (arrayS) = X) := ⟨_, rfl⟩
              have hX : X.length ≤ 200 := by rw [← HX.out, List.length_append]; have := PL.out.arrays k; simp only [] at this; omega
              rw [HX.out]
              obtain ⟨sb, HSB⟩ : ∃ sb : ByteArray, Hid (sb = ⟨X.toArray⟩) := ⟨_, rfl⟩
              have hsb : sb.size ≤ 200 := by rw [strSz HSB.out]; exact hX
              rw [← HSB.out]
              obtain ⟨b, o, x, ea, hb, hxy, hin, hc1⟩ := ((HPA.out.below HB).arrays).at_ hlt
              simp only [] at ea
              subst ea
              have gx := G3.out x (ints_in (by rw [L3.out]; exact hlt) hxy)
              have HF := Lib.hid (ints_flat arrayS (by rw [L3.out]; exact hlt) hxy)
              obtain ⟨bt0, HBT0⟩ : ∃ bt : ByteArray, Hid (bt = ⟨(Lib.itoa x).toArray⟩) := ⟨_, rfl⟩
              have hbt0 : bt0.size ≤ 3 := by rw [strSz HBT0.out]; exact (digs3 (by omega) (by omega)).1
              obtain ⟨s1, HS1, z1, k1⟩ := cat_ex sb ⟨#[97, 114, 114, 97, 121, 32]⟩ (200) (6) hsb (Nat.le_refl 6) (by omega)
              obtain ⟨s2, HS2, z2, k2⟩ := cat_ex s1 bt0 (200 + 6) (3) z1 hbt0 (by omega)
              obtain ⟨s3, HS3, z3, k3⟩ := cat_ex s2 ⟨#[10]⟩ (200 + 6 + 3) (1) z2 (Nat.le_refl 1) (by omega)
              have t4 := BP.cell (j := 4) rfl
              go_wp2_with fail
              refine (l1Int_any x _ (by omega) (by omega)).mono ?_
              rintro e w3 ⟨rfl, hb3⟩
              rw [← HBT0.out]
              have BP := BP.below hb3 BP.lt
              have HB := HB.trans (hb3.mono HB.size)
              clear t4 hb3 hc1
              go_wp2
              go_roundw
              case rel => exact ⟨k + 1, by omega, by go_num, str_eq (by rw [HS3.out, HS2.out, HS1.out, HSB.out, HBT0.out, HF.out, ← List.append_assoc, HX.out]; apply ByteArray.ext; simp [arrayS]), HB, BP⟩
              case measure => simp [intOf]; omega
            · obtain rfl : n3 = k := by omega
              have hall : pa.take n3 = pa := List.take_of_length_le (by rw [L3.out]; exact Nat.le_refl _)
              rw [hall]
              obtain ⟨P4, HP4⟩ : ∃ X, Hid (P3 ++ pa.flatMap (arrayS) = X) := ⟨_, rfl⟩
              have hP4 : P4.length ≤ 200 := by rw [← HP4.out, List.length_append]; have := hall; have := PL.out.arrays n3; simp only [] at this; rw [hall] at this; omega
              rw [HP4.out]
              clear hlt hall
              obtain ⟨wqP4, HQ⟩ : ∃ wq, wq = wr := ⟨_, rfl⟩
              subst HQ
              have t4 := BP.cell (j := 4) rfl
              go_wp2_with fail
              clear t4
              go_loopw [3, 7] (fun sv iv wr => ∃ k : Nat, k ≤ n4 ∧ iv = .int .i64 (k : Int) ∧ sv = .string ⟨(P4 ++ (pb.take k).flatMap (lineS pl.length ps.length)).toArray⟩ ∧ Below w.heap.size w wr ∧ Blk wr w.heap.size 28 [.int .i64 wd, .slice a1 n1 c1, .slice a2 n2 c2, .int .i64 tp, .slice a3 n3 c3, .slice a4 n4 c4]) (fun _ iv _ => n4 - (intOf iv).toNat)
              case atStart => exact ⟨0, Nat.zero_le _, rfl, by simp, HB, BP⟩
              case round =>
                clear HB BP
                obtain ⟨k, hk, rfl, rfl, HB, BP⟩ := hrel
                by_cases hlt : k < n4
                · skip
                  obtain ⟨X, HX⟩ : ∃ X, Hid (P4 ++ (pb.take k).flatMap (lineS pl.length ps.length) = X) := ⟨_, rfl⟩
                  have hX : X.length ≤ 28240 := by rw [← HX.out, List.length_append]; have := PL.out.body k; simp only [] at this; omega
                  rw [HX.out]
                  obtain ⟨sb, HSB⟩ : ∃ sb : ByteArray, Hid (sb = ⟨X.toArray⟩) := ⟨_, rfl⟩
                  have hsb : sb.size ≤ 28240 := by rw [strSz HSB.out]; exact hX
                  rw [← HSB.out]
                  have hkl : k < pb.length := by rw [L4.out]; exact hlt
                  obtain ⟨b, o, x, y, ba, m1, d1, bb, m2, d2, ts, us, ea, hb, hxy, hc1, hc2, hc3, hc4, i1, i2, hT1, hT2⟩ := stmt_row (k := k) (HPA.out.below HB) HCAP.out hkl
                  simp only [] at ea hxy
                  subst ea
                  have HF := Lib.hid (st_flat (lineS pl.length ps.length) hkl hxy)
                  have hsl := HSL.out k hkl
                  rw [hxy.out] at hsl
                  obtain ⟨bt0, HBT0⟩ : ∃ bt : ByteArray, Hid (bt = ⟨(stmS pl.length ps.length ⟨x, y, ts, us⟩).toArray⟩) := ⟨_, rfl⟩
                  have hbt0 : bt0.size ≤ 700 := by rw [strSz HBT0.out]; exact hsl
                  obtain ⟨s1, HS1, z1, k1⟩ := cat_ex sb bt0 (28240) (700) hsb hbt0 (by omega)
                  obtain ⟨s2, HS2, z2, k2⟩ := cat_ex s1 ⟨#[10]⟩ (28240 + 700) (1) z1 (Nat.le_refl 1) (by omega)
                  have HC0 : Hid (∀ p : Lat wr, Calls Tryz.prog 93 #[.agg #[.int .i64 wd, .slice a1 n1 c1, .slice a2 n2 c2, .int .i64 tp, .slice a3 n3 c3, .slice (some ⟨b, o, none⟩) n4 c4], .agg #[.int .i64 x, .int .i64 y, .slice ba m1 d1, .slice bb m2 d2]] p.wd fun e w' => e = .returned (.string bt0) ∧ Below p.wd.heap.size p.wd w') := Lib.hid (fun p => by rw [HBT0.out]; exact HST.out k x y ba m1 d1 bb m2 d2 ts us hkl hxy.out i1 i2 p.wd (HB.trans (p.ok.mono HB.size)) (hT1.below (Nat.le_refl _) p.ok) (hT2.below (Nat.le_refl _) p.ok))
                  have f0 := lat_cell BP.lt (BP.cell (j := 0) rfl)
                  have f1 := lat_cell BP.lt (BP.cell (j := 1) rfl)
                  have f2 := lat_cell BP.lt (BP.cell (j := 2) rfl)
                  have f3 := lat_cell BP.lt (BP.cell (j := 3) rfl)
                  have f4 := lat_cell BP.lt (BP.cell (j := 4) rfl)
                  have f5 := lat_cell BP.lt (BP.cell (j := 5) rfl)
                  have t5 := BP.cell (j := 5) rfl
                  have h1 := lat_cell hb hc1
                  have h2 := lat_cell hb hc2
                  have h3 := lat_cell hb hc3
                  have h4 := lat_cell hb hc4
                  go_wp2_with fail
                  refine wp_region_lat (by kernel_rfl) (by kernel_rfl) ?_
                  repeat (quiet_step ((go_at_call 93; exact lat_calls (HC0.out _))))
                  refine wpQuiet_nil ?_
                  intro _ hw'
                  obtain ⟨⟨wq, hwq⟩, hw''⟩ := hw'
                  subst hw''
                  have BP := BP.below hwq BP.lt
                  have HB := HB.trans (hwq.mono HB.size)
                  clear f0 f1 f2 f3 f4 f5 t5 h1 h2 h3 h4 hc1 hc2 hc3 hc4 hwq
                  go_wp2
                  go_roundw
                  case rel => exact ⟨k + 1, by omega, by go_num, str_eq (by rw [HS2.out, HS1.out, HSB.out, HBT0.out, HF.out, ← List.append_assoc, HX.out]; apply ByteArray.ext; simp [lineS]), HB, BP⟩
                  case measure => simp [intOf]; omega
                · obtain rfl : n4 = k := by omega
                  have hall : pb.take n4 = pb := List.take_of_length_le (by rw [L4.out]; exact Nat.le_refl _)
                  rw [hall]
                  obtain ⟨P5, HP5⟩ : ∃ X, Hid (P4 ++ pb.flatMap (lineS pl.length ps.length) = X) := ⟨_, rfl⟩
                  have hP5 : P5.length ≤ 28240 := by rw [← HP5.out, List.length_append]; have := hall; have := PL.out.body n4; simp only [] at this; rw [hall] at this; omega
                  rw [HP5.out]
                  clear hlt hall
                  obtain ⟨wqP5, HQ⟩ : ∃ wq, wq = wr := ⟨_, rfl⟩
                  subst HQ
                  have t5 := BP.cell (j := 5) rfl
                  go_wp2_with fail
                  go_ret
                  exact ⟨ret_str (by rw [← HP5.out, ← HP4.out, ← HP3.out, ← HP2.out, ← HP1.out, ← HP0.out, ← HR.out]; simp [progS, headS]), HB⟩
end Go.Proofs.YtjboghmcmlkpoaaGreatDoor
/- The contracts of the program's lineOf and headText (written by tools/gen_implprog.py). -/
namespace Go.Proofs.YtjboghmcmlkpoaaGreatDoor
open Go.RowKit

def numS (n : Int) : List UInt8 := 32 :: Lib.itoa n
def lineL (word : List UInt8) (zs : List Int) : List UInt8 := word ++ (zs.flatMap numS ++ [10])
set_option maxHeartbeats 1600000 in
theorem lineOf_any (word : List UInt8) (a : Option Addr) (m c : Nat) (zs : List Int) (w : World) (hw : word.length ≤ 100) (h : Ints w a m zs) (hm : m ≤ 2) (hz : ∀ z ∈ zs, 0 ≤ z ∧ z ≤ 255) (htab : Lib.TabIs Tryz.prog w "internal/strconv.uint64pow10" .u64 Lib.pow10Tab) :
    Calls Tryz.prog 103 #[.string ⟨word.toArray⟩, .slice a m c] w fun e w' => e = .returned (.string ⟨(lineL word zs).toArray⟩) ∧ Below w.heap.size w w' := by
  have HTAB := Lib.hid htab
  have HZ := Lib.hid hz
  have HI := Lib.hid h
  have HL := Lib.hid h.1
  have HLEN : Hid (∀ k, ((zs.take k).flatMap numS).length ≤ 8) := Lib.hid (fun k => by
    have := flatMap_take_len numS zs 4 k (fun x hx => by have := digs3 (n := x) (hz x hx).1 (by have := (hz x hx).2; omega); simp [numS]; omega)
    have := h.1
    omega)
  clear htab hz h
  go_enter Tryz.func103, Tryz.ntmps103
  go_wp2_with fail
  go_loopw [0, 9] (fun sv iv wr => ∃ k : Nat, k ≤ m ∧ iv = .int .i64 (k : Int) ∧ sv = .string ⟨(word ++ (zs.take k).flatMap numS).toArray⟩ ∧ Below w.heap.size w wr) (fun _ iv _ => m - (intOf iv).toNat)
  case atStart => exact ⟨0, Nat.zero_le _, rfl, by simp, Below.refl _ _⟩
  case round =>
    obtain ⟨k, hk, rfl, rfl, HB⟩ := hrel
    obtain ⟨X, HX⟩ : ∃ X, Hid (word ++ (zs.take k).flatMap numS = X) := ⟨_, rfl⟩
    have hX : X.length ≤ 108 := by rw [← HX.out, List.length_append]; have := HLEN.out k; omega
    rw [HX.out]
    obtain ⟨sb, HSB⟩ : ∃ sb : ByteArray, Hid (sb = ⟨X.toArray⟩) := ⟨_, rfl⟩
    have hsb : sb.size ≤ 108 := by rw [strSz HSB.out]; exact hX
    rw [← HSB.out]
    by_cases hlt : k < m
    · obtain ⟨b, o, x, rfl, hb, hxy, hin, hc1⟩ := (HI.out.below HB).at_ hlt
      have gx := HZ.out x (ints_in (by rw [HL.out]; exact hlt) hxy)
      have HF := Lib.hid (ints_flat numS (by rw [HL.out]; exact hlt) hxy)
      obtain ⟨bt0, HBT0⟩ : ∃ bt : ByteArray, Hid (bt = ⟨(Lib.itoa x).toArray⟩) := ⟨_, rfl⟩
      have hbt0 : bt0.size ≤ 3 := by rw [strSz HBT0.out]; exact (digs3 (by omega) (by omega)).1
      obtain ⟨s1, HS1, z1, k1⟩ := cat_ex ⟨#[32]⟩ bt0 1 3 (Nat.le_refl 1) hbt0 (by omega)
      obtain ⟨s2, HS2, z2, k2⟩ := cat_ex sb s1 108 (1 + 3) hsb z1 (by omega)
      go_wp2_with fail
      refine (format_any x _ (by omega) (by omega) (tab_later HTAB.out HB)).mono ?_
      rintro e w1 ⟨rfl, hb1⟩
      rw [← HBT0.out]
      have HB := HB.trans (hb1.mono HB.size)
      clear hc1 hb1
      go_wp2
      go_roundw
      case rel => exact ⟨k + 1, by omega, by go_num, str_eq (by rw [HS2.out, HS1.out, HSB.out, HBT0.out, HF.out, ← List.append_assoc, HX.out]; apply ByteArray.ext; simp [numS]), HB⟩
      case measure => simp [intOf]; omega
    · have hkm : k = m := by omega
      have hall : zs.take k = zs := List.take_of_length_le (by rw [HL.out]; omega)
      obtain ⟨s1, HS1, z1, k1⟩ := cat_ex sb ⟨#[10]⟩ 108 1 hsb (Nat.le_refl 1) (by omega)
      have HE : Hid (s1 = (⟨(lineL word zs).toArray⟩ : ByteArray)) := Lib.hid (by rw [HS1.out, HSB.out, ← HX.out, hall]; apply ByteArray.ext; simp [lineL])
      have hnn : decide ((k : Int) < (m : Int)) = false := by simp; omega
      clear hall
      go_wp2
      go_ret
      exact ⟨ret_str HE.out, HB⟩
theorem ints_blk {w : World} {g : Nat} {zs : List Int} (h : Blk w g 2 (zs.map (Value.int .i64))) (hl : zs.length ≤ 1048576) (hin : ∀ z ∈ zs, In64 z) : Ints w (some ⟨g, 0, none⟩) zs.length zs := by
  refine ⟨rfl, hl, hin, fun _ => ⟨g, 0, rfl, h.lt, fun i hi => ?_⟩⟩
  rw [Nat.zero_add]
  refine h.cell (j := i) ?_
  rw [List.getElem?_map, List.getElem?_eq_getElem hi, List.getD_eq_getElem?_getD, List.getElem?_eq_getElem hi]
  rfl
theorem ints_one {w w' : World} {g : Nat} {z : Int} (h : w' = w.alloc (.cells #[.int .i64 z] 2)) (hg : g = w.heap.size) (hin : In64 z) : Ints w' (some ⟨g, 0, none⟩) 1 [z] := by
  subst h hg
  exact ints_blk (zs := [z]) (Blk.new w _ _) (by simp) (by simpa using hin)
theorem ints_two {w w' : World} {g : Nat} {z y : Int} (h : w' = w.alloc (.cells #[.int .i64 z, .int .i64 y] 2)) (hg : g = w.heap.size) (hin : In64 z) (hin' : In64 y) : Ints w' (some ⟨g, 0, none⟩) 2 [z, y] := by
  subst h hg
  exact ints_blk (zs := [z, y]) (Blk.new w _ _) (by simp) (by simp; exact ⟨hin, hin'⟩)
theorem in64_small {z : Int} (h0 : 0 ≤ z) (h1 : z ≤ 255) : In64 z := ⟨by omega, by omega⟩
theorem line_low (t : Tm) : lineL [108, 111, 119] [t.1] = lowS t := by simp [lineL, numS, lowS]
theorem line_secret (t : Tm) : lineL [115, 101, 99, 114, 101, 116] [t.1, t.2] = secretS t := by simp [lineL, numS, secretS]
theorem line_array (z : Int) : lineL [97, 114, 114, 97, 121] [z] = arrayS z := by simp [lineL, numS, arrayS]
theorem line_width (z : Int) : lineL [119, 105, 100, 116, 104] [z] = widthS z := by simp [lineL, numS, widthS]
theorem line_temps (z : Int) : lineL [116, 101, 109, 112, 115] [z] = tempsS z := by simp [lineL, numS, tempsS]
set_option maxRecDepth 20000 in
set_option maxHeartbeats 12800000 in
theorem headText_any (r : PRow) (p : Prg) (w : World) (h : ProgAt w r p) (hz : codeB p = 0) (htab : Lib.TabIs Tryz.prog w "internal/strconv.uint64pow10" .u64 Lib.pow10Tab) :
    Calls Tryz.prog 43 #[progV r] w fun e w' => e = .returned (.string ⟨(headS p).toArray⟩) ∧ Below w.heap.size w w' := by
  have HTAB := Lib.hid htab
  clear htab
  obtain ⟨q1, q2, q3, q4, q5, q6, q7, q8⟩ := code_head hz
  obtain ⟨g1, g2, g3, _⟩ := code_parts hz
  have PL := Lib.hid (part_lens hz)
  have G1 := Lib.hid g1
  have G2 := Lib.hid g2
  have G3 := Lib.hid g3
  obtain ⟨wd, ⟨a1, n1, c1⟩, ⟨a2, n2, c2⟩, tp, ⟨a3, n3, c3⟩, ⟨a4, n4, c4⟩, rows⟩ := r
  obtain ⟨pw, pl, ps, pt, pa, pb⟩ := p
  have HPA := Lib.hid h
  have e1 := h.width
  have e2 := h.temps
  simp only [] at e1 e2 q1 q2 q3 q4 q5 q6 q7 q8 G1 G2 G3
  subst e1 e2
  have L1 := Lib.hid h.lows.1
  have L2 := Lib.hid h.secrets.1
  have L3 := Lib.hid h.arrays.1
  simp only [] at L1 L2 L3
  have hn1 : n1 ≤ 3 := by rw [← L1.out]; exact q3
  have hn2 : n2 ≤ 3 := by rw [← L2.out]; exact q4
  have hn3 : n3 ≤ 2 := by rw [← L3.out]; exact q7
  clear h hz g1 g2 g3 q3 q4 q7 q8
  show Calls Tryz.prog 43 #[.agg #[.int .i64 wd, .slice a1 n1 c1, .slice a2 n2 c2, .int .i64 tp, .slice a3 n3 c3, .slice a4 n4 c4]] w _
  obtain ⟨wa, HW⟩ : ∃ wa, Hid (wa = w.alloc (.cells #[.int .i64 wd, .slice a1 n1 c1, .slice a2 n2 c2, .int .i64 tp, .slice a3 n3 c3, .slice a4 n4 c4] 28)) := ⟨_, rfl⟩
  have BP : Blk wa w.heap.size 28 [.int .i64 wd, .slice a1 n1 c1, .slice a2 n2 c2, .int .i64 tp, .slice a3 n3 c3, .slice a4 n4 c4] := by rw [HW.out]; exact Blk.new w _ _
  have HB : Below w.heap.size w wa := by rw [HW.out]; exact (Below.refl _ _).alloc (Nat.le_refl _) _
  obtain ⟨R, HR⟩ : ∃ R, Hid (headS ⟨wd, pl, ps, tp, pa, pb⟩ = R) := ⟨_, rfl⟩
  rw [HR.out]
  have HLN : Hid (∀ (word : List UInt8) (a : Option Addr) (m c : Nat) (zs : List Int) (w' : World), word.length ≤ 100 → Ints w' a m zs → m ≤ 2 → (∀ z ∈ zs, 0 ≤ z ∧ z ≤ 255) → Below w.heap.size w w' → Calls Tryz.prog 103 #[.string ⟨word.toArray⟩, .slice a m c] w' fun e w'' => e = .returned (.string ⟨(lineL word zs).toArray⟩) ∧ Below w'.heap.size w' w'') := Lib.hid (fun word a m c zs w' i1 i2 i3 i4 i5 => lineOf_any word a m c zs w' i1 i2 i3 i4 (tab_later HTAB.out i5))
  have hwa1 : Below w.heap.size w (wa.alloc (.cells #[.int .i64 wd] 2)) := HB.alloc HB.size _
  have t0 := BP.cell (j := 0) rfl
  go_enter Tryz.func43, Tryz.ntmps43
  go_wp2_with fail
  rw [← HW.out]
  refine (HLN.out [119, 105, 100, 116, 104] _ _ _ [wd] (wa.alloc (.cells #[.int .i64 wd] 2)) (by simp) (ints_one rfl (by first | rfl | (rw [HW.out]; simp)) (in64_small (by omega) (by omega))) (by omega) (by simp; omega) hwa1).mono ?_
  rintro e w1 ⟨rfl, hb1⟩
  rw [line_width]
  have BP := (BP.alloc (.cells #[.int .i64 wd] 2)).below hb1 (BP.alloc _).lt
  have HB := hwa1.trans (hb1.mono hwa1.size)
  clear t0 hb1 hwa1 HW
  obtain ⟨P0, HP0⟩ : ∃ P0, Hid (widthS wd = P0) := ⟨_, rfl⟩
  have hP0 : P0.length ≤ 20 := by rw [← HP0.out]; exact PL.out.width
  rw [HP0.out]
  have t1 := BP.cell (j := 1) rfl
  go_wp2_with fail
  clear t1
  go_loopw [3, 17] (fun sv iv wr => ∃ k : Nat, k ≤ n1 ∧ iv = .int .i64 (k : Int) ∧ sv = .string ⟨(P0 ++ (pl.take k).flatMap (lowS)).toArray⟩ ∧ Below w.heap.size w wr ∧ Blk wr w.heap.size 28 [.int .i64 wd, .slice a1 n1 c1, .slice a2 n2 c2, .int .i64 tp, .slice a3 n3 c3, .slice a4 n4 c4]) (fun _ iv _ => n1 - (intOf iv).toNat)
  case atStart => exact ⟨0, Nat.zero_le _, rfl, by simp, HB, BP⟩
  case round =>
    clear HB BP
    obtain ⟨k, hk, rfl, rfl, HB, BP⟩ := hrel
    by_cases hlt : k < n1
    · skip
      obtain ⟨X, HX⟩ : ∃ X, Hid (P0 ++ (pl.take k).flatMap (lowS) = X) := ⟨_, rfl⟩
      have hX : X.length ≤ 60 := by rw [← HX.out, List.length_append]; have := PL.out.lows k; simp only [] at this; omega
      rw [HX.out]
      obtain ⟨sb, HSB⟩ : ∃ sb : ByteArray, Hid (sb = ⟨X.toArray⟩) := ⟨_, rfl⟩
      have hsb : sb.size ≤ 60 := by rw [strSz HSB.out]; exact hX
      rw [← HSB.out]
      obtain ⟨b, o, x, y, ea, hb, hxy, hin1, hin2, hc1, hc2⟩ := ((HPA.out.below HB).lows).at_ hlt
      simp only [] at ea
      subst ea
      have GX := Lib.hid (G1.out (x, y) (tmAt_in (by rw [L1.out]; exact hlt) hxy))
      have hx0 : 0 ≤ x := GX.out.1
      have hx1 : x ≤ 255 := GX.out.2.1
      skip
      skip
      have HF := Lib.hid (tm_flat lowS (by rw [L1.out]; exact hlt) hxy)
      have hwa1 : Below w.heap.size w ((wr.alloc (.cells #[.int .i64 x, .int .i64 y] 101)).alloc (.cells #[.int .i64 x] 2)) := (HB.alloc HB.size _).alloc (by have := HB.size; simp; omega) _
      have BP := (BP.alloc (.cells #[.int .i64 x, .int .i64 y] 101)).alloc (.cells #[.int .i64 x] 2)
      go_wp2_with fail
      refine (HLN.out [108, 111, 119] (some ⟨wr.heap.size + 1, 0, none⟩) _ _ [x] ((wr.alloc (.cells #[.int .i64 x, .int .i64 y] 101)).alloc (.cells #[.int .i64 x] 2)) (by simp) (ints_one rfl (by simp) (in64_small (by omega) (by omega))) (by omega) (by simp; omega) hwa1).mono ?_
      rintro e w3 ⟨rfl, hb3⟩
      rw [line_low (x, y)]
      have BP := BP.below hb3 BP.lt
      have HB := hwa1.trans (hb3.mono hwa1.size)
      clear hb3 hwa1 hc1 hc2
      obtain ⟨bt0, HBT0⟩ : ∃ bt : ByteArray, Hid (bt = ⟨(lowS (x, y)).toArray⟩) := ⟨_, rfl⟩
      have hbt0 : bt0.size ≤ 20 := by rw [strSz HBT0.out]; have := lowS_len (t := (x, y)) GX.out; omega
      rw [← HBT0.out]
      obtain ⟨s1, HS1, z1, k1⟩ := cat_ex sb bt0 60 20 hsb hbt0 (by omega)
      go_wp2
      go_roundw
      case rel => exact ⟨k + 1, by omega, by go_num, str_eq (by rw [HS1.out, HSB.out, HBT0.out, HF.out, ← List.append_assoc, HX.out]; exact str_cat _ _), HB, BP⟩
      case measure => simp [intOf]; omega
    · obtain rfl : n1 = k := by omega
      have hall : pl.take n1 = pl := List.take_of_length_le (by rw [L1.out]; exact Nat.le_refl _)
      rw [hall]
      obtain ⟨P1, HP1⟩ : ∃ X, Hid (P0 ++ pl.flatMap (lowS) = X) := ⟨_, rfl⟩
      have hP1 : P1.length ≤ 60 := by rw [← HP1.out, List.length_append]; have := PL.out.lows n1; simp only [] at this; rw [hall] at this; omega
      rw [HP1.out]
      clear hlt hall
      obtain ⟨wqP1, HQ⟩ : ∃ wq, wq = wr := ⟨_, rfl⟩
      subst HQ
      have t2 := BP.cell (j := 2) rfl
      go_wp2_with fail
      clear t2
      go_loopw [3, 31] (fun sv iv wr => ∃ k : Nat, k ≤ n2 ∧ iv = .int .i64 (k : Int) ∧ sv = .string ⟨(P1 ++ (ps.take k).flatMap (secretS)).toArray⟩ ∧ Below w.heap.size w wr ∧ Blk wr w.heap.size 28 [.int .i64 wd, .slice a1 n1 c1, .slice a2 n2 c2, .int .i64 tp, .slice a3 n3 c3, .slice a4 n4 c4]) (fun _ iv _ => n2 - (intOf iv).toNat)
      case atStart => exact ⟨0, Nat.zero_le _, rfl, by simp, HB, BP⟩
      case round =>
        clear HB BP
        obtain ⟨k, hk, rfl, rfl, HB, BP⟩ := hrel
        by_cases hlt : k < n2
        · skip
          obtain ⟨X, HX⟩ : ∃ X, Hid (P1 ++ (ps.take k).flatMap (secretS) = X) := ⟨_, rfl⟩
          have hX : X.length ≤ 140 := by rw [← HX.out, List.length_append]; have := PL.out.secrets k; simp only [] at this; omega
          rw [HX.out]
          obtain ⟨sb, HSB⟩ : ∃ sb : ByteArray, Hid (sb = ⟨X.toArray⟩) := ⟨_, rfl⟩
          have hsb : sb.size ≤ 140 := by rw [strSz HSB.out]; exact hX
          rw [← HSB.out]
          obtain ⟨b, o, x, y, ea, hb, hxy, hin1, hin2, hc1, hc2⟩ := ((HPA.out.below HB).secrets).at_ hlt
          simp only [] at ea
          subst ea
          have GX := Lib.hid (G2.out (x, y) (tmAt_in (by rw [L2.out]; exact hlt) hxy))
          have hx0 : 0 ≤ x := GX.out.1
          have hx1 : x ≤ 255 := GX.out.2.1
          have hy0 : 0 ≤ y := GX.out.2.2.1
          have hy1 : y ≤ 99 := GX.out.2.2.2
          have HF := Lib.hid (tm_flat secretS (by rw [L2.out]; exact hlt) hxy)
          have hwa1 : Below w.heap.size w ((wr.alloc (.cells #[.int .i64 x, .int .i64 y] 101)).alloc (.cells #[.int .i64 x, .int .i64 y] 2)) := (HB.alloc HB.size _).alloc (by have := HB.size; simp; omega) _
          have BP := (BP.alloc (.cells #[.int .i64 x, .int .i64 y] 101)).alloc (.cells #[.int .i64 x, .int .i64 y] 2)
          go_wp2_with fail
          refine (HLN.out [115, 101, 99, 114, 101, 116] (some ⟨wr.heap.size + 1, 0, none⟩) _ _ [x, y] ((wr.alloc (.cells #[.int .i64 x, .int .i64 y] 101)).alloc (.cells #[.int .i64 x, .int .i64 y] 2)) (by simp) (ints_two rfl (by simp) (in64_small (by omega) (by omega)) (in64_small (by omega) (by omega))) (by omega) (by simp; omega) hwa1).mono ?_
          rintro e w3 ⟨rfl, hb3⟩
          rw [line_secret (x, y)]
          have BP := BP.below hb3 BP.lt
          have HB := hwa1.trans (hb3.mono hwa1.size)
          clear hb3 hwa1 hc1 hc2
          obtain ⟨bt0, HBT0⟩ : ∃ bt : ByteArray, Hid (bt = ⟨(secretS (x, y)).toArray⟩) := ⟨_, rfl⟩
          have hbt0 : bt0.size ≤ 20 := by rw [strSz HBT0.out]; have := secretS_len (t := (x, y)) GX.out; omega
          rw [← HBT0.out]
          obtain ⟨s1, HS1, z1, k1⟩ := cat_ex sb bt0 140 20 hsb hbt0 (by omega)
          go_wp2
          go_roundw
          case rel => exact ⟨k + 1, by omega, by go_num, str_eq (by rw [HS1.out, HSB.out, HBT0.out, HF.out, ← List.append_assoc, HX.out]; exact str_cat _ _), HB, BP⟩
          case measure => simp [intOf]; omega
        · obtain rfl : n2 = k := by omega
          have hall : ps.take n2 = ps := List.take_of_length_le (by rw [L2.out]; exact Nat.le_refl _)
          rw [hall]
          obtain ⟨P2, HP2⟩ : ∃ X, Hid (P1 ++ ps.flatMap (secretS) = X) := ⟨_, rfl⟩
          have hP2 : P2.length ≤ 140 := by rw [← HP2.out, List.length_append]; have := PL.out.secrets n2; simp only [] at this; rw [hall] at this; omega
          rw [HP2.out]
          clear hlt hall
          obtain ⟨wqP2, HQ⟩ : ∃ wq, wq = wr := ⟨_, rfl⟩
          subst HQ
          obtain ⟨sb, HSB⟩ : ∃ sb : ByteArray, Hid (sb = ⟨P2.toArray⟩) := ⟨_, rfl⟩
          have hsb : sb.size ≤ 140 := by rw [strSz HSB.out]; exact hP2
          rw [← HSB.out]
          have t3 := BP.cell (j := 3) rfl
          have hwa1 : Below w.heap.size w (wqP2.alloc (.cells #[.int .i64 tp] 2)) := HB.alloc HB.size _
          go_wp2_with fail
          refine (HLN.out [116, 101, 109, 112, 115] _ _ _ [tp] (wqP2.alloc (.cells #[.int .i64 tp] 2)) (by simp) (ints_one rfl rfl (in64_small (by omega) (by omega))) (by omega) (by simp; omega) hwa1).mono ?_
          rintro e w5 ⟨rfl, hb5⟩
          rw [line_temps]
          have BP := (BP.alloc (.cells #[.int .i64 tp] 2)).below hb5 (BP.alloc _).lt
          have HB := hwa1.trans (hb5.mono hwa1.size)
          clear t3 hb5 hwa1
          obtain ⟨bt1, HBT1⟩ : ∃ bt : ByteArray, Hid (bt = ⟨(tempsS tp).toArray⟩) := ⟨_, rfl⟩
          have hbt1 : bt1.size ≤ 20 := by rw [strSz HBT1.out]; exact PL.out.temps
          rw [← HBT1.out]
          obtain ⟨s1, HS1, z1, k1⟩ := cat_ex sb bt1 140 20 hsb hbt1 (by omega)
          have t4 := BP.cell (j := 4) rfl
          go_wp2_with fail
          clear t4
          obtain ⟨P3, HP3⟩ : ∃ X, Hid (P2 ++ tempsS tp = X) := ⟨_, rfl⟩
          have hP3 : P3.length ≤ 160 := by rw [← HP3.out, List.length_append]; have := PL.out.temps; simp only [] at this; omega
          have HE3 : Hid (s1 = (⟨P3.toArray⟩ : ByteArray)) := Lib.hid (by rw [HS1.out, HSB.out, HBT1.out, ← HP3.out]; exact str_cat _ _)
          rw [HE3.out]
          go_loopw [3, 53] (fun sv iv wr => ∃ k : Nat, k ≤ n3 ∧ iv = .int .i64 (k : Int) ∧ sv = .string ⟨(P3 ++ (pa.take k).flatMap (arrayS)).toArray⟩ ∧ Below w.heap.size w wr ∧ Blk wr w.heap.size 28 [.int .i64 wd, .slice a1 n1 c1, .slice a2 n2 c2, .int .i64 tp, .slice a3 n3 c3, .slice a4 n4 c4]) (fun _ iv _ => n3 - (intOf iv).toNat)
          case atStart => exact ⟨0, Nat.zero_le _, rfl, by simp, HB, BP⟩
          case round =>
            clear HB BP
            obtain ⟨k, hk, rfl, rfl, HB, BP⟩ := hrel
            by_cases hlt : k < n3
            · skip
              obtain ⟨X, HX⟩ : ∃ X, Hid (P3 ++ (pa.take k).flatMap (arrayS) = X) := ⟨_, rfl⟩
              have hX : X.length ≤ 200 := by rw [← HX.out, List.length_append]; have := PL.out.arrays k; simp only [] at this; omega
              rw [HX.out]
              obtain ⟨sb, HSB⟩ : ∃ sb : ByteArray, Hid (sb = ⟨X.toArray⟩) := ⟨_, rfl⟩
              have hsb : sb.size ≤ 200 := by rw [strSz HSB.out]; exact hX
              rw [← HSB.out]
              obtain ⟨b, o, x, ea, hb, hxy, hin, hc1⟩ := ((HPA.out.below HB).arrays).at_ hlt
              simp only [] at ea
              subst ea
              have gx := G3.out x (ints_in (by rw [L3.out]; exact hlt) hxy)
              have HF := Lib.hid (ints_flat arrayS (by rw [L3.out]; exact hlt) hxy)
              have hwa1 : Below w.heap.size w (wr.alloc (.cells #[.int .i64 x] 2)) := HB.alloc HB.size _
              have BP := BP.alloc (.cells #[.int .i64 x] 2)
              go_wp2_with fail
              refine (HLN.out [97, 114, 114, 97, 121] _ _ _ [x] (wr.alloc (.cells #[.int .i64 x] 2)) (by simp) (ints_one rfl rfl (in64_small (by omega) (by omega))) (by omega) (by simp; omega) hwa1).mono ?_
              rintro e w3 ⟨rfl, hb3⟩
              rw [line_array]
              have BP := BP.below hb3 BP.lt
              have HB := hwa1.trans (hb3.mono hwa1.size)
              clear hb3 hwa1 hc1
              obtain ⟨bt0, HBT0⟩ : ∃ bt : ByteArray, Hid (bt = ⟨(arrayS x).toArray⟩) := ⟨_, rfl⟩
              have hbt0 : bt0.size ≤ 20 := by rw [strSz HBT0.out]; have := arrayS_len gx; omega
              rw [← HBT0.out]
              obtain ⟨s1, HS1, z1, k1⟩ := cat_ex sb bt0 200 20 hsb hbt0 (by omega)
              go_wp2
              go_roundw
              case rel => exact ⟨k + 1, by omega, by go_num, str_eq (by rw [HS1.out, HSB.out, HBT0.out, HF.out, ← List.append_assoc, HX.out]; exact str_cat _ _), HB, BP⟩
              case measure => simp [intOf]; omega
            · obtain rfl : n3 = k := by omega
              have hall : pa.take n3 = pa := List.take_of_length_le (by rw [L3.out]; exact Nat.le_refl _)
              rw [hall]
              obtain ⟨P4, HP4⟩ : ∃ X, Hid (P3 ++ pa.flatMap (arrayS) = X) := ⟨_, rfl⟩
              have hP4 : P4.length ≤ 200 := by rw [← HP4.out, List.length_append]; have := PL.out.arrays n3; simp only [] at this; rw [hall] at this; omega
              rw [HP4.out]
              clear hlt hall
              obtain ⟨wqP4, HQ⟩ : ∃ wq, wq = wr := ⟨_, rfl⟩
              subst HQ
              go_wp2_with fail
              go_ret
              exact ⟨ret_str (by rw [← HP4.out, ← HP3.out, ← HP2.out, ← HP1.out, ← HP0.out, ← HR.out]; simp [headS]), HB⟩
end Go.Proofs.YtjboghmcmlkpoaaGreatDoor
