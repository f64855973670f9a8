/- Joined texts of this proof (ImplName, Tree, AppTree), in build order. -/
import Derived.Test.YtjboghmcmlkpoaaGreatDoorJ8
import Derived.Test.YtjboghmcmlkpoaaGreatDoorJ11
import Derived.Test.YtjboghmcmlkpoaaGreatDoorJ12
import Derived.Test.YtjboghmcmlkpoaaGreatDoorJ2
import Derived.Test.YtjboghmcmlkpoaaGreatDoorJ3
/- The contracts of the program's namedBy and nameOf: names in words. -/
namespace Go.Proofs.YtjboghmcmlkpoaaGreatDoor
open Go.RowKit

/-- The first number that has a name with that letter, and how many have one. -/
def nameFirst (r : PRow) (c : UInt8) : Int := if c = 108 then 0 else if c = 115 then (r.lows.2.1 : Int) else if c = 116 then (r.lows.2.1 : Int) + (r.secrets.2.1 : Int) else 0
def nameCount (r : PRow) (c : UInt8) : Int := if c = 108 then (r.lows.2.1 : Int) else if c = 115 then (r.secrets.2.1 : Int) else if c = 116 then r.temps else (r.arrays.2.1 : Int)
def nameS (r : PRow) : List UInt8 → Int → List UInt8
  | [], _ => []
  | c :: rest, n => if nameFirst r c ≤ n ∧ n ≤ nameFirst r c + nameCount r c - 1 then c :: Lib.itoa (n - nameFirst r c) else nameS r rest n
def Letter (c : UInt8) : Prop := c = 108 ∨ c = 115 ∨ c = 116 ∨ c = 109
/-- A head as names ask it. -/
structure NameHead (r : PRow) : Prop where
  lows : r.lows.2.1 ≤ 1048576
  secrets : r.secrets.2.1 ≤ 1048576
  arrays : r.arrays.2.1 ≤ 1048576
  temps0 : 0 ≤ r.temps
  temps1 : r.temps ≤ 1048576
theorem NameHead.first {r : PRow} (h : NameHead r) (c : UInt8) : 0 ≤ nameFirst r c ∧ nameFirst r c ≤ 2097152 := by
  obtain ⟨h1, h2, h3, h4, h5⟩ := h
  unfold nameFirst
  split
  · omega
  split
  · omega
  split <;> omega
theorem NameHead.count {r : PRow} (h : NameHead r) (c : UInt8) : 0 ≤ nameCount r c ∧ nameCount r c ≤ 2097152 := by
  obtain ⟨h1, h2, h3, h4, h5⟩ := h
  unfold nameCount
  split
  · omega
  split
  · omega
  split <;> omega
set_option maxHeartbeats 1600000 in
theorem namedBy_any (r : PRow) (c : UInt8) (w : World) (h : NameHead r) (hc : Letter c) :
    Calls Tryz.prog 151 #[progV r, .string ⟨#[c]⟩] w fun e w' => e = .returned (.tuple #[.int .i64 (nameFirst r c), .int .i64 (nameCount r c)]) ∧ Below w.heap.size w w' := by
  have HF : Hid (∀ w' : World, Calls Tryz.prog 187 #[progV r] w' fun e w'' => e = .returned (.int .i64 ((r.lows.2.1 : Int) + (r.secrets.2.1 : Int))) ∧ Below w'.heap.size w' w'') := Lib.hid (fun w' => firstTemp_any r w' h.lows h.secrets)
  have hl := h.lows
  have hs := h.secrets
  have ha := h.arrays
  obtain ⟨wd, ⟨a1, n1, c1⟩, ⟨a2, n2, c2⟩, tp, ⟨a3, n3, c3⟩, ⟨a4, n4, c4⟩, rows⟩ := r
  simp only [] at HF hl hs ha
  clear h
  obtain ⟨wa, HW⟩ : ∃ wa, Hid (wa = w.alloc (.cells #[.int .i64 wd, .slice a1 n1 c1, .slice a2 n2 c2, .int .i64 tp, .slice a3 n3 c3, .slice a4 n4 c4] 28)) := ⟨_, rfl⟩
  have B : Blk wa w.heap.size 28 [.int .i64 wd, .slice a1 n1 c1, .slice a2 n2 c2, .int .i64 tp, .slice a3 n3 c3, .slice a4 n4 c4] := by rw [HW.out]; exact Blk.new w _ _
  have HB : Below w.heap.size w wa := by rw [HW.out]; exact (Below.refl _ _).alloc (Nat.le_refl _) _
  rcases hc with rfl | rfl | rfl | rfl
  · show Calls Tryz.prog 151 #[.agg #[.int .i64 wd, .slice a1 n1 c1, .slice a2 n2 c2, .int .i64 tp, .slice a3 n3 c3, .slice a4 n4 c4], .string ⟨#[108]⟩] w _
    go_enter Tryz.func151, Tryz.ntmps151
    go_wp2
    go_quiet (fail)
    go_wp2
    go_ret2
    exact ⟨rfl, below_dn ((Below.refl _ _).alloc (Nat.le_refl _) _) _⟩
  · show Calls Tryz.prog 151 #[.agg #[.int .i64 wd, .slice a1 n1 c1, .slice a2 n2 c2, .int .i64 tp, .slice a3 n3 c3, .slice a4 n4 c4], .string ⟨#[115]⟩] w _
    go_enter Tryz.func151, Tryz.ntmps151
    go_wp2
    go_quiet (fail)
    go_wp2
    go_ret2
    exact ⟨rfl, below_dn ((Below.refl _ _).alloc (Nat.le_refl _) _) _⟩
  · show Calls Tryz.prog 151 #[.agg #[.int .i64 wd, .slice a1 n1 c1, .slice a2 n2 c2, .int .i64 tp, .slice a3 n3 c3, .slice a4 n4 c4], .string ⟨#[116]⟩] w _
    have HC1 : Hid (∀ p : Lat wa, Calls Tryz.prog 187 #[.agg #[.int .i64 wd, .slice a1 n1 c1, .slice a2 n2 c2, .int .i64 tp, .slice a3 n3 c3, .slice a4 n4 c4]] p.wd fun e w' => e = .returned (.int .i64 ((n1 : Int) + (n2 : Int))) ∧ Below p.wd.heap.size p.wd w') := Lib.hid (fun p => HF.out p.wd)
    have g0 := lat_cell B.lt (B.cell (j := 0) rfl)
    have g1 := lat_cell B.lt (B.cell (j := 1) rfl)
    have g2 := lat_cell B.lt (B.cell (j := 2) rfl)
    have g3 := lat_cell B.lt (B.cell (j := 3) rfl)
    have g4 := lat_cell B.lt (B.cell (j := 4) rfl)
    have g5 := lat_cell B.lt (B.cell (j := 5) rfl)
    go_enter Tryz.func151, Tryz.ntmps151
    go_wp2
    rw [← HW.out]
    refine wp_region_lat (by kernel_rfl) (by kernel_rfl) ?_
    repeat (go_big_quiet_step ((go_at_call 187; exact lat_calls (HC1.out _))))
    refine wpQuiet_nil ?_
    intro _ hw'
    obtain ⟨⟨wq, hwq⟩, hw''⟩ := hw'
    subst hw''
    have ht := HB.trans (hwq.mono HB.size)
    go_wp2
    go_ret2
    exact ⟨rfl, ht⟩
  · show Calls Tryz.prog 151 #[.agg #[.int .i64 wd, .slice a1 n1 c1, .slice a2 n2 c2, .int .i64 tp, .slice a3 n3 c3, .slice a4 n4 c4], .string ⟨#[109]⟩] w _
    go_enter Tryz.func151, Tryz.ntmps151
    go_wp2
    go_quiet (fail)
    go_wp2
    go_ret2
    exact ⟨rfl, below_dn ((Below.refl _ _).alloc (Nat.le_refl _) _) _⟩
/-- A slice of texts of one letter each. -/
def Letters (w : World) (a : Option Addr) (m : Nat) (ls : List UInt8) : Prop :=
  ls.length = m ∧ m ≤ 3 ∧ (∀ c ∈ ls, Letter c) ∧ ∃ b o, a = some ⟨b, o, none⟩ ∧ b < w.heap.size ∧ ∀ i, i < m → w.cell? ⟨b, o + i, none⟩ = some (.string ⟨#[ls.getD i 0]⟩)
theorem Letters.below {w w' : World} {a : Option Addr} {m : Nat} {ls : List UInt8} (h : Letters w a m ls) (hb : Below w.heap.size w w') : Letters w' a m ls := by
  obtain ⟨h1, h2, h3, b, o, e, hlt, hc⟩ := h
  exact ⟨h1, h2, h3, b, o, e, Nat.lt_of_lt_of_le hlt hb.size, fun i hi => (hb.cell hlt).trans (hc i hi)⟩
theorem drop_getD {ls : List UInt8} {k : Nat} (h : k < ls.length) : ls.drop k = ls.getD k 0 :: ls.drop (k + 1) := by
  rw [List.drop_eq_getElem_cons h, List.getD_eq_getElem?_getD, List.getElem?_eq_getElem h]; rfl
set_option maxHeartbeats 1600000 in
theorem nameOf_any (r : PRow) (n : Int) (a : Option Addr) (m c : Nat) (ls : List UInt8) (w : World) (hr : NameHead r) (h : Letters w a m ls) (h0 : 0 ≤ n) (h1 : n ≤ 255) (htab : Lib.TabIs Tryz.prog w "internal/strconv.uint64pow10" .u64 Lib.pow10Tab) :
    Calls Tryz.prog 104 #[progV r, .int .i64 n, .slice a m c] w fun e w' => e = .returned (.string ⟨(nameS r ls n).toArray⟩) ∧ Below w.heap.size w w' := by
  have HTAB := Lib.hid htab
  have HN : Hid (∀ (w' : World) (c : UInt8), Letter c → Calls Tryz.prog 151 #[progV r, .string ⟨#[c]⟩] w' fun e w'' => e = .returned (.tuple #[.int .i64 (nameFirst r c), .int .i64 (nameCount r c)]) ∧ Below w'.heap.size w' w'') := Lib.hid (fun w' c hc => namedBy_any r c w' hr hc)
  obtain ⟨R, HR⟩ : ∃ R, Hid (nameS r = R) := ⟨_, rfl⟩
  have HF1 := Lib.hid hr.first
  have HF2 := Lib.hid hr.count
  have HSTEP : Hid (∀ c rest, R (c :: rest) n = if nameFirst r c ≤ n ∧ n ≤ nameFirst r c + nameCount r c - 1 then c :: Lib.itoa (n - nameFirst r c) else R rest n) := Lib.hid (fun c rest => by rw [← HR.out, nameS])
  have HNIL : Hid (R [] n = []) := Lib.hid (by rw [← HR.out, nameS])
  rw [HR.out]
  obtain ⟨F, HF⟩ : ∃ F, Hid (nameFirst r = F) := ⟨_, rfl⟩
  obtain ⟨C, HC⟩ : ∃ C, Hid (nameCount r = C) := ⟨_, rfl⟩
  rw [HF.out, HC.out] at HN HSTEP
  rw [HF.out] at HF1
  rw [HC.out] at HF2
  obtain ⟨wd, ⟨a1, n1, c1⟩, ⟨a2, n2, c2⟩, tp, ⟨a3, n3, c3⟩, ⟨a4, n4, c4⟩, rows⟩ := r
  clear hr htab HR HF HC
  show Calls Tryz.prog 104 #[.agg #[.int .i64 wd, .slice a1 n1 c1, .slice a2 n2 c2, .int .i64 tp, .slice a3 n3 c3, .slice a4 n4 c4], .int .i64 n, .slice a m c] w _
  obtain ⟨wa, HW⟩ : ∃ wa, Hid (wa = w.alloc (.cells #[.int .i64 wd, .slice a1 n1 c1, .slice a2 n2 c2, .int .i64 tp, .slice a3 n3 c3, .slice a4 n4 c4] 28)) := ⟨_, rfl⟩
  have B : Blk wa w.heap.size 28 [.int .i64 wd, .slice a1 n1 c1, .slice a2 n2 c2, .int .i64 tp, .slice a3 n3 c3, .slice a4 n4 c4] := by rw [HW.out]; exact Blk.new w _ _
  have HB : Below w.heap.size w wa := by rw [HW.out]; exact (Below.refl _ _).alloc (Nat.le_refl _) _
  obtain ⟨hl, hm, hls, b, o, rfl, hb, hcell⟩ := h.below HB
  have HL := Lib.hid hl
  have HLS := Lib.hid hls
  have HCELL := Lib.hid hcell
  clear h hl hls hcell
  go_enter Tryz.func104, Tryz.ntmps104
  go_wp2_with fail
  rw [← HW.out]
  go_loopw [13] (fun iv wr => ∃ k : Nat, k ≤ m ∧ iv = .int .i64 (k : Int) ∧ Hid (R (ls.drop k) n = R ls n) ∧ Below wa.heap.size wa wr) (fun iv _ => m - (intOf iv).toNat)
  case atStart => exact ⟨0, Nat.zero_le _, rfl, rfl, Below.refl _ _⟩
  case round =>
    obtain ⟨k, hk, rfl, HK, hbr⟩ := hrel
    have HBr := HB.trans (hbr.mono HB.size)
    have B1 := B.below hbr B.lt
    by_cases hlt : k < m
    · have hck := (hbr.cell (p := ⟨b, o + k, none⟩) hb).trans (HCELL.out k hlt)
      obtain ⟨q, HQ⟩ : ∃ q, Hid (ls.getD k 0 = q) := ⟨_, rfl⟩
      have hq : Letter q := by
        rw [← HQ.out, List.getD_eq_getElem?_getD, List.getElem?_eq_getElem (by rw [HL.out]; exact hlt)]
        exact HLS.out _ (List.getElem_mem _)
      have HQL := Lib.hid hq
      clear hq
      rw [HQ.out] at hck
      have HD : Hid (R (q :: ls.drop (k + 1)) n = R ls n) := Lib.hid (by rw [← HK.out, ← HQ.out, ← drop_getD (by rw [HL.out]; exact hlt)])
      have hf := HF1.out q
      have hcn := HF2.out q
      obtain ⟨f, Hf⟩ : ∃ f, Hid (F q = f) := ⟨_, rfl⟩
      obtain ⟨g, Hg⟩ : ∃ g, Hid (C q = g) := ⟨_, rfl⟩
      have HS := Lib.hid (HSTEP.out q (ls.drop (k + 1)))
      rw [Hf.out] at hf
      rw [Hg.out] at hcn
      rw [Hf.out, Hg.out] at HS
      have HN1 := Lib.hid (HN.out wr q HQL.out)
      rw [Hf.out, Hg.out] at HN1
      have t0 := B1.cell (j := 0) rfl
      have t1 := B1.cell (j := 1) rfl
      have t2 := B1.cell (j := 2) rfl
      have t3 := B1.cell (j := 3) rfl
      have t4 := B1.cell (j := 4) rfl
      have t5 := B1.cell (j := 5) rfl
      go_wp2_with fail
      refine HN1.out.mono ?_
      rintro e w1 ⟨rfl, hb1⟩
      have HB1 := HBr.trans (hb1.mono HBr.size)
      have hbr1 := hbr.trans (hb1.mono hbr.size)
      clear t0 t1 t2 t3 t4 t5 hck
      by_cases hin : f ≤ n ∧ n ≤ f + g - 1
      · have hw : (decide (f ≤ n) && decide (n ≤ f + g - 1)) = true := by rw [decide_eq_true hin.1, decide_eq_true hin.2]; rfl
        have hit := digs3 (n := n - f) (by omega) (by omega)
        go_wp2_with (go_at_call 47; refine (isWithin_any _ _ _ _).mono ?_; rintro e w' ⟨rfl, rfl⟩; rw [hw])
        refine (format_any (n - f) _ (by omega) (by omega) (tab_later HTAB.out HB1)).mono ?_
        rintro e w2 ⟨rfl, hb2⟩
        obtain ⟨bt, HBT⟩ : ∃ bt : ByteArray, Hid (bt = ⟨(Lib.itoa (n - f)).toArray⟩) := ⟨_, rfl⟩
        have hbt : bt.size ≤ 10 := by rw [HBT.out]; show (Lib.itoa (n - f)).toArray.size ≤ 10; simp; omega
        rw [← HBT.out]
        go_wp2_with fail
        go_ret
        exact ⟨ret_str (by rw [HBT.out, ← HD.out, HS.out, if_pos hin]; exact app_one _ _), HB1.trans (hb2.mono HB1.size)⟩
      · have hw : (decide (f ≤ n) && decide (n ≤ f + g - 1)) = false := by rw [← Bool.not_eq_true]; simpa using hin
        have HD2 : Hid (R (ls.drop (k + 1)) n = R ls n) := Lib.hid (by rw [← HD.out, HS.out, if_neg hin])
        clear HS HD HN1
        go_wp2_with (go_at_call 47; refine (isWithin_any _ _ _ _).mono ?_; rintro e w' ⟨rfl, rfl⟩; rw [hw])
        go_roundw
        case rel => exact ⟨k + 1, by omega, by go_num, HD2, hbr1⟩
        case measure => simp [intOf]; omega
    · obtain rfl : m = k := by omega
      have HE : Hid (R ls n = []) := Lib.hid (by rw [← HK.out, List.drop_of_length_le (by rw [HL.out]; exact Nat.le_refl _), HNIL.out])
      go_wp2_with fail
      go_ret
      exact ⟨ret_str (by rw [HE.out]), HBr⟩
end Go.Proofs.YtjboghmcmlkpoaaGreatDoor
/- Trees in memory (the program's interface values), and the contracts of their methods. -/
namespace Go.Proofs.YtjboghmcmlkpoaaGreatDoor
open Go.RowKit

instance : Inhabited Tr := ⟨.node 0 0 []⟩

/-- The slice '.slice a n c' of trees reads as the values vs; its block is one of F. -/
def RowV (w : World) (F : Nat → Prop) (a : Option Addr) (n : Nat) (vs : List Value) : Prop :=
  vs.length = n ∧ (0 < n → ∃ b o cur fz, a = some ⟨b, o, none⟩ ∧ F b ∧ w.heap[b]? = some (.cells cur 110 fz) ∧ ∀ i, i < n → cur[o + i]? = some (vs.getD i .nilIface))

/-- The value is this tree; the blocks of its slices are some of F. -/
inductive IsTree (w : World) (F : Nat → Prop) : Value → Tr → Prop
  | num (n : Int) : IsTree w F (.iface 161 (.agg #[.int .i64 n])) (.node 0 n [])
  | var (n : Int) : IsTree w F (.iface 163 (.agg #[.int .i64 n])) (.node 1 n [])
  | cell (n : Int) (v : Value) (T : Tr) : IsTree w F v T → IsTree w F (.iface 165 (.agg #[.int .i64 n, v])) (.node 2 n [T])
  | op (k : Int) (a : Option Addr) (m c : Nat) (vs : List Value) (Ts : List Tr) : 3 ≤ k → k ≤ 17 → m ≤ 3 → Ts.length = m → RowV w F a m vs → (∀ i, i < m → IsTree w F (vs.getD i .nilIface) (Ts.getD i default)) →
      IsTree w F (.iface 216 (.agg #[.int .i64 k, .slice a m c])) (.node k 0 Ts)

/-- In w' the slices of trees of w in F lie as they did, and are in F'. -/
def Keeps (w : World) (F : Nat → Prop) (w' : World) (F' : Nat → Prop) : Prop := ∀ b cur fz, F b → w.heap[b]? = some (.cells cur 110 fz) → w'.heap[b]? = w.heap[b]? ∧ F' b
theorem RowV.keep {w w' : World} {F F' : Nat → Prop} {a : Option Addr} {n : Nat} {vs : List Value} (h : RowV w F a n vs) (hk : Keeps w F w' F') : RowV w' F' a n vs := by
  refine ⟨h.1, fun hp => ?_⟩
  obtain ⟨b, o, cur, fz, ha, hF, hh, hc⟩ := h.2 hp
  have := hk b cur fz hF hh
  exact ⟨b, o, cur, fz, ha, this.2, this.1.trans hh, hc⟩
theorem IsTree.keep {w w' : World} {F F' : Nat → Prop} {v : Value} {T : Tr} (h : IsTree w F v T) (hk : Keeps w F w' F') : IsTree w' F' v T := by
  induction h with
  | num n => exact .num n
  | var n => exact .var n
  | cell n v T _ ih => exact .cell n v T ih
  | op k a m c vs Ts h1 h2 h3 h4 h5 _ ih => exact .op k a m c vs Ts h1 h2 h3 h4 (h5.keep hk) ih
theorem RowV.at_ {w : World} {F : Nat → Prop} {a : Option Addr} {n : Nat} {vs : List Value} (h : RowV w F a n vs) {k : Nat} (hk : k < n) :
    ∃ b o, a = some ⟨b, o, none⟩ ∧ b < w.heap.size ∧ w.cell? ⟨b, o + k, none⟩ = some (vs.getD k .nilIface) := by
  obtain ⟨b, o, cur, fz, ha, hF, hh, hc⟩ := h.2 (by omega)
  refine ⟨b, o, ha, (Array.getElem?_eq_some_iff.1 hh).1, ?_⟩
  simp [World.cell?, hh, hc k hk]


/-! ### Which method it is -/
theorem m_num_under (x : Value) (w : World) : Sem.run Tryz.prog (method 433 161 (.agg #[x]) "loop.example/g00697/impl.under") w = .ok (262, .agg #[x]) w := by kernel_rfl
theorem m_var_under (x : Value) (w : World) : Sem.run Tryz.prog (method 433 163 (.agg #[x]) "loop.example/g00697/impl.under") w = .ok (264, .agg #[x]) w := by kernel_rfl
theorem m_cell_under (x y : Value) (w : World) : Sem.run Tryz.prog (method 433 165 (.agg #[x, y]) "loop.example/g00697/impl.under") w = .ok (266, .agg #[x, y]) w := by kernel_rfl
theorem m_op_under (x y : Value) (w : World) : Sem.run Tryz.prog (method 433 216 (.agg #[x, y]) "loop.example/g00697/impl.under") w = .ok (270, .agg #[x, y]) w := by kernel_rfl
theorem m_num_term (x : Value) (w : World) : Sem.run Tryz.prog (method 433 161 (.agg #[x]) "loop.example/g00697/impl.term") w = .ok (261, .agg #[x]) w := by kernel_rfl
theorem m_var_term (x : Value) (w : World) : Sem.run Tryz.prog (method 433 163 (.agg #[x]) "loop.example/g00697/impl.term") w = .ok (263, .agg #[x]) w := by kernel_rfl
theorem m_cell_term (x y : Value) (w : World) : Sem.run Tryz.prog (method 433 165 (.agg #[x, y]) "loop.example/g00697/impl.term") w = .ok (265, .agg #[x, y]) w := by kernel_rfl
theorem m_op_term (x y : Value) (w : World) : Sem.run Tryz.prog (method 433 216 (.agg #[x, y]) "loop.example/g00697/impl.term") w = .ok (269, .agg #[x, y]) w := by kernel_rfl

/-! ### The methods -/
theorem num_under (n : Int) (w : World) : Calls Tryz.prog 262 #[.agg #[.int .i64 n]] w fun e w' => e = .returned (.slice none 0 0) ∧ Below w.heap.size w w' := by
  go_enter Tryz.func262, Tryz.ntmps262
  go_wp2
  go_ret
  exact ⟨rfl, (Below.refl _ _).alloc (Nat.le_refl _) _⟩
theorem var_under (n : Int) (w : World) : Calls Tryz.prog 264 #[.agg #[.int .i64 n]] w fun e w' => e = .returned (.slice none 0 0) ∧ Below w.heap.size w w' := by
  go_enter Tryz.func264, Tryz.ntmps264
  go_wp2
  go_ret
  exact ⟨rfl, (Below.refl _ _).alloc (Nat.le_refl _) _⟩
theorem op_under (k : Int) (a : Option Addr) (m c : Nat) (w : World) : Calls Tryz.prog 270 #[.agg #[.int .i64 k, .slice a m c]] w fun e w' => e = .returned (.slice a m c) ∧ Below w.heap.size w w' := by
  go_enter Tryz.func270, Tryz.ntmps270
  go_wp2
  go_ret
  exact ⟨rfl, (Below.refl _ _).alloc (Nat.le_refl _) _⟩
theorem cell_under (n : Int) (u : TypeId) (x : Value) (w : World) : Calls Tryz.prog 266 #[.agg #[.int .i64 n, .iface u x]] w fun e w' => ∃ g, e = .returned (.slice (some ⟨g, 0, none⟩) 1 1) ∧ w.heap.size ≤ g ∧ w'.heap[g]? = some (.cells #[.iface u x] 110 (0, 0)) ∧ Below w.heap.size w w' := by
  go_enter Tryz.func266, Tryz.ntmps266
  go_wp2
  go_ret
  refine ⟨w.heap.size + 1, rfl, by omega, ?_, ((Below.refl _ _).alloc (Nat.le_refl _) _).alloc (by simp) _⟩
  have := heap_alloc_new (w.alloc (.cells #[.int .i64 n, .iface u x] 165)) (.cells #[.iface u x] 110)
  simpa using this
theorem num_term (n : Int) (w : World) : Calls Tryz.prog 261 #[.agg #[.int .i64 n]] w fun e w' => e = .returned (.agg #[.int .i64 0, .int .i64 n]) ∧ Below w.heap.size w w' := by
  go_enter Tryz.func261, Tryz.ntmps261
  go_wp2
  exact bodyPost_ret (v := .agg #[.int .i64 0, .int .i64 n]) (by simp [results, Tryz.results261, go_sem]) rfl ⟨rfl, ((Below.refl _ _).alloc (Nat.le_refl _) _).alloc (by simp) _⟩
theorem var_term (n : Int) (w : World) : Calls Tryz.prog 263 #[.agg #[.int .i64 n]] w fun e w' => e = .returned (.agg #[.int .i64 1, .int .i64 n]) ∧ Below w.heap.size w w' := by
  go_enter Tryz.func263, Tryz.ntmps263
  go_wp2
  exact bodyPost_ret (v := .agg #[.int .i64 1, .int .i64 n]) (by simp [results, Tryz.results263, go_sem]) rfl ⟨rfl, ((Below.refl _ _).alloc (Nat.le_refl _) _).alloc (by simp) _⟩
theorem cell_term (n : Int) (u : TypeId) (x : Value) (w : World) : Calls Tryz.prog 265 #[.agg #[.int .i64 n, .iface u x]] w fun e w' => e = .returned (.agg #[.int .i64 2, .int .i64 n]) ∧ Below w.heap.size w w' := by
  go_enter Tryz.func265, Tryz.ntmps265
  go_wp2
  exact bodyPost_ret (v := .agg #[.int .i64 2, .int .i64 n]) (by simp [results, Tryz.results265, go_sem]) rfl ⟨rfl, ((Below.refl _ _).alloc (Nat.le_refl _) _).alloc (by simp) _⟩
theorem op_term (k : Int) (a : Option Addr) (m c : Nat) (w : World) : Calls Tryz.prog 269 #[.agg #[.int .i64 k, .slice a m c]] w fun e w' => e = .returned (.agg #[.int .i64 k, .int .i64 0]) ∧ Below w.heap.size w w' := by
  go_enter Tryz.func269, Tryz.ntmps269
  go_wp2
  exact bodyPost_ret (v := .agg #[.int .i64 k, .int .i64 0]) (by simp [results, Tryz.results269, go_sem]) rfl ⟨rfl, ((Below.refl _ _).alloc (Nat.le_refl _) _).alloc (by simp) _⟩
end Go.Proofs.YtjboghmcmlkpoaaGreatDoor
/- The contract of the program's appendTree: the Terms of a tree, in order, behind what was there. (Four walks of one text, one for each kind of tree.) -/
namespace Go.Proofs.YtjboghmcmlkpoaaGreatDoor
open Go.RowKit

theorem IsTree.iface {w : World} {F : Nat → Prop} {v : Value} {T : Tr} (h : IsTree w F v T) : ∃ u x, v = .iface u x := by cases h <;> exact ⟨_, _, rfl⟩
theorem okT_in {op n : Int} {kids : List Tr} (h : (Tr.node op n kids).okT) : InTm (op, n) := by
  simp only [Tr.okT] at h
  obtain ⟨h1, h2, h3, _⟩ := (tOkB_iff _).1 h.1
  have hr : 0 ≤ op ∧ op ≤ 17 := by
    rcases Int.lt_or_le op 0 with h' | h'
    · have := (takesI_neg op).2 (.inl h'); simp only [] at h1; omega
    · rcases Int.lt_or_le 17 op with h'' | h''
      · have := (takesI_neg op).2 (.inr h''); simp only [] at h1; omega
      · exact ⟨h', h''⟩
  simp only [] at h2 h3
  exact ⟨⟨by simp only []; omega, by simp only []; omega⟩, ⟨by simp only []; omega, by simp only []; omega⟩⟩
theorem flats_take_succ (kids : List Tr) (i : Nat) (h : i < kids.length) : Tr.flats (kids.take (i + 1)) = Tr.flats (kids.take i) ++ (kids.getD i default).flat := by
  rw [List.take_succ_eq_append_getElem h, flats_append, flats_one, List.getD_eq_getElem?_getD, List.getElem?_eq_getElem h]; rfl
theorem flats_take_le (kids : List Tr) (i : Nat) (h : i < kids.length) : (Tr.flats (kids.take i)).length + (kids.getD i default).flat.length ≤ (Tr.flats kids).length := by
  have e : Tr.flats kids = Tr.flats (kids.take (i + 1)) ++ Tr.flats (kids.drop (i + 1)) := by rw [← flats_append, List.take_append_drop]
  rw [e, flats_take_succ kids i h, List.length_append, List.length_append]; omega
theorem oks_getD {kids : List Tr} (h : Tr.oks kids) {i : Nat} (hi : i < kids.length) : (kids.getD i default).okT := by
  rw [List.getD_eq_getElem?_getD, List.getElem?_eq_getElem hi]; exact (oks_iff kids).1 h _ (List.getElem_mem hi)

theorem keeps_below {w w' : World} {F : Nat → Prop} (h : Below w.heap.size w w') : Keeps w F w' F := fun b _ _ hF hh => ⟨h.block b (Array.getElem?_eq_some_iff.1 hh).1, hF⟩
theorem keeps_own {w w' : World} {F : Nat → Prop} {B size n : Nat} {e : TypeId} {v : Value} {xs : List Value} (ho : w.ownsRow B e size v n xs) (hg : w.grownBy w' v.ownBlock) (hne : 110 ≠ e) : Keeps w F w' F := by
  refine fun b cur fz hF hh => ⟨hg.block b (Array.getElem?_eq_some_iff.1 hh).1 (fun e => ?_), hF⟩
  obtain ⟨c', fz', h'⟩ := Go.Lib.ownsRow_kind ho b e.symm
  rw [hh] at h'
  injection h' with h'
  injection h' with _ h'
  exact hne h'

theorem row_one {w : World} {g : Nat} {v : Value} (h : w.heap[g]? = some (.cells #[v] 110 (0, 0))) : RowV w (fun _ => True) (some ⟨g, 0, none⟩) 1 [v] := by
  refine ⟨rfl, fun _ => ⟨g, 0, _, _, rfl, trivial, h, fun i hi => ?_⟩⟩
  have : i = 0 := by omega
  subst this
  rfl

/-- What appendTree leaves. -/
def AppT (w : World) (B : Nat) (a : Option Addr) (n c : Nat) (ts : List Tm) (T : Tr) (e : Ending) (w' : World) : Prop :=
  ∃ a' n' c', e = .returned (.slice a' n' c') ∧ OwnT w' B a' n' c' (ts ++ T.flat) ∧ GrowsTo w (.slice a n c) w' (.slice a' n' c')
def AppSaid (N : Nat) : Prop := ∀ (T : Tr) (v : Value) (w : World) (B : Nat) (a : Option Addr) (n c : Nat) (ts : List Tm), T.flat.length ≤ N → T.okT → IsTree w (fun _ => True) v T → OwnT w B a n c ts → B ≤ w.heap.size → ts.length + T.flat.length ≤ 3000 →
  Calls Tryz.prog 134 #[.slice a n c, v] w (AppT w B a n c ts T)

set_option maxRecDepth 100000 in
set_option maxHeartbeats 1600000 in
theorem app_num (N : Nat) (_ih : Hid (AppSaid N)) (x : Int) (w : World) (B : Nat) (a : Option Addr) (n c : Nat) (ts : List Tm) (_hN : (Tr.node 0 x []).flat.length ≤ N + 1) (hok : (Tr.node 0 x []).okT) (ho : OwnT w B a n c ts) (hB : B ≤ w.heap.size) (hbd : ts.length + (Tr.node 0 x []).flat.length ≤ 3000) :
    Calls Tryz.prog 134 #[.slice a n c, .iface 161 (.agg #[.int .i64 x])] w (AppT w B a n c ts (Tr.node 0 x [])) := by
  have m1 := m_num_under (.int .i64 x)
  have m2 := m_num_term (.int .i64 x)
  have HL := Lib.hid ho.len
  have hn1 : n ≤ 3000 := by have := HL.out; omega
  have hin := okT_in hok
  simp only [Tr.okT] at hok
  clear hok
  simp only [Tr.flat, List.length_append, List.length_singleton] at hbd
  go_enter Tryz.func134, Tryz.ntmps134
  go_wp2_with fail
  refine (num_under _ _).mono ?_
  rintro e w1 ⟨rfl, hb1⟩
  have ho1 := ho.below hb1
  have hB1 : B ≤ w1.heap.size := Nat.le_trans hB hb1.size
  skip
  clear ho
  go_wp2
  go_loopw [0, 10] (fun ev i wr => ∃ (k : Nat) (a1 : Option Addr) (n1 c1 : Nat), k ≤ 0 ∧ i = .int .i64 k ∧ ev = .slice a1 n1 c1 ∧ OwnT wr B a1 n1 c1 (ts ++ Tr.flats (([]).take k)) ∧ GrowsTo w1 (.slice a n c) wr (.slice a1 n1 c1)) (fun _ i _ => 0 - (intOf i).toNat)
  case atStart => exact ⟨0, a, n, c, Nat.zero_le _, rfl, rfl, by simpa [Tr.flats] using ho1, GrowsTo.refl _ _⟩
  case round =>
    obtain ⟨k, a1, n1, c1, hk, rfl, rfl, hown, hgr⟩ := hrel
    have hBr : B ≤ wr.heap.size := Nat.le_trans hB1 hgr.size
    by_cases hlt : k < 0
    · omega
    · obtain rfl : 0 = k := by omega
      have hall : Tr.flats (([]).take (0)) = Tr.flats ([]) := by rw [List.take_of_length_le (by simp)]
      rw [hall] at hown
      have hl2 : (ts ++ Tr.flats ([])).length ≤ 3000 := by rw [List.length_append]; omega
      have hn2 : n1 ≤ 3000 := by have := hown.len; omega
      clear hall hl2
      go_wp2_with fail
      refine (num_term _ _).mono ?_
      rintro e w2 ⟨rfl, hb2⟩
      have hown2 := hown.below hb2
      have hgr2 := (GrowsTo.below_left hb1 hgr).below_right hb2
      have hs2 : B ≤ w2.heap.size := Nat.le_trans hBr hb2.size
      clear hown hgr hb2
      go_wp2_with (at_builtin; refine wpList_pushT _ rfl _ _ rfl B _ _ _ (ts ++ Tr.flats ([])) rfl (hown2.alloc _) w2.heap.size 0 x rfl (by simp) (by simp) hin (by omega) (by simp; omega) ?_)
      intro a3 c3 w3 hown3 hgr3
      have hgr4 := hgr2.trans (GrowsTo.below_left ((Below.refl _ _).alloc (Nat.le_refl _) _) hgr3)
      clear hown2 hgr2 hgr3
      go_wp2
      go_ret
      exact ⟨_, _, _, rfl, by rw [Tr.flat]; first | exact hown3 | (rw [← List.append_assoc]; exact hown3), hgr4⟩

set_option maxRecDepth 100000 in
set_option maxHeartbeats 1600000 in
theorem app_var (N : Nat) (_ih : Hid (AppSaid N)) (x : Int) (w : World) (B : Nat) (a : Option Addr) (n c : Nat) (ts : List Tm) (_hN : (Tr.node 1 x []).flat.length ≤ N + 1) (hok : (Tr.node 1 x []).okT) (ho : OwnT w B a n c ts) (hB : B ≤ w.heap.size) (hbd : ts.length + (Tr.node 1 x []).flat.length ≤ 3000) :
    Calls Tryz.prog 134 #[.slice a n c, .iface 163 (.agg #[.int .i64 x])] w (AppT w B a n c ts (Tr.node 1 x [])) := by
  have m1 := m_var_under (.int .i64 x)
  have m2 := m_var_term (.int .i64 x)
  have HL := Lib.hid ho.len
  have hn1 : n ≤ 3000 := by have := HL.out; omega
  have hin := okT_in hok
  simp only [Tr.okT] at hok
  clear hok
  simp only [Tr.flat, List.length_append, List.length_singleton] at hbd
  go_enter Tryz.func134, Tryz.ntmps134
  go_wp2_with fail
  refine (var_under _ _).mono ?_
  rintro e w1 ⟨rfl, hb1⟩
  have ho1 := ho.below hb1
  have hB1 : B ≤ w1.heap.size := Nat.le_trans hB hb1.size
  skip
  clear ho
  go_wp2
  go_loopw [0, 10] (fun ev i wr => ∃ (k : Nat) (a1 : Option Addr) (n1 c1 : Nat), k ≤ 0 ∧ i = .int .i64 k ∧ ev = .slice a1 n1 c1 ∧ OwnT wr B a1 n1 c1 (ts ++ Tr.flats (([]).take k)) ∧ GrowsTo w1 (.slice a n c) wr (.slice a1 n1 c1)) (fun _ i _ => 0 - (intOf i).toNat)
  case atStart => exact ⟨0, a, n, c, Nat.zero_le _, rfl, rfl, by simpa [Tr.flats] using ho1, GrowsTo.refl _ _⟩
  case round =>
    obtain ⟨k, a1, n1, c1, hk, rfl, rfl, hown, hgr⟩ := hrel
    have hBr : B ≤ wr.heap.size := Nat.le_trans hB1 hgr.size
    by_cases hlt : k < 0
    · omega
    · obtain rfl : 0 = k := by omega
      have hall : Tr.flats (([]).take (0)) = Tr.flats ([]) := by rw [List.take_of_length_le (by simp)]
      rw [hall] at hown
      have hl2 : (ts ++ Tr.flats ([])).length ≤ 3000 := by rw [List.length_append]; omega
      have hn2 : n1 ≤ 3000 := by have := hown.len; omega
      clear hall hl2
      go_wp2_with fail
      refine (var_term _ _).mono ?_
      rintro e w2 ⟨rfl, hb2⟩
      have hown2 := hown.below hb2
      have hgr2 := (GrowsTo.below_left hb1 hgr).below_right hb2
      have hs2 : B ≤ w2.heap.size := Nat.le_trans hBr hb2.size
      clear hown hgr hb2
      go_wp2_with (at_builtin; refine wpList_pushT _ rfl _ _ rfl B _ _ _ (ts ++ Tr.flats ([])) rfl (hown2.alloc _) w2.heap.size 1 x rfl (by simp) (by simp) hin (by omega) (by simp; omega) ?_)
      intro a3 c3 w3 hown3 hgr3
      have hgr4 := hgr2.trans (GrowsTo.below_left ((Below.refl _ _).alloc (Nat.le_refl _) _) hgr3)
      clear hown2 hgr2 hgr3
      go_wp2
      go_ret
      exact ⟨_, _, _, rfl, by rw [Tr.flat]; first | exact hown3 | (rw [← List.append_assoc]; exact hown3), hgr4⟩

set_option maxRecDepth 100000 in
set_option maxHeartbeats 1600000 in
theorem app_cell (N : Nat) (ih : Hid (AppSaid N)) (x : Int) (u0 : TypeId) (x0 : Value) (T0 : Tr)  (w : World) (B : Nat) (a : Option Addr) (n c : Nat) (ts : List Tm) (hN : (Tr.node 2 x [T0]).flat.length ≤ N + 1) (hok : (Tr.node 2 x [T0]).okT) (hT0 : IsTree w (fun _ => True) (.iface u0 x0) T0) (ho : OwnT w B a n c ts) (hB : B ≤ w.heap.size) (hbd : ts.length + (Tr.node 2 x [T0]).flat.length ≤ 3000) :
    Calls Tryz.prog 134 #[.slice a n c, .iface 165 (.agg #[.int .i64 x, .iface u0 x0])] w (AppT w B a n c ts (Tr.node 2 x [T0])) := by
  have m1 := m_cell_under (.int .i64 x) (.iface u0 x0)
  have m2 := m_cell_term (.int .i64 x) (.iface u0 x0)
  have HL := Lib.hid ho.len
  have hn1 : n ≤ 3000 := by have := HL.out; omega
  have hin := okT_in hok
  simp only [Tr.okT] at hok
  have hok3 := hok.2.2; clear hok
  simp only [Tr.flat, List.length_append, List.length_singleton] at hN hbd
  go_enter Tryz.func134, Tryz.ntmps134
  go_wp2_with fail
  refine (cell_under _ _ _ _).mono ?_
  rintro e w1 ⟨g, rfl, hg1, hg2, hb1⟩
  have ho1 := ho.below hb1
  have hB1 : B ≤ w1.heap.size := Nat.le_trans hB hb1.size
  have hrow : RowV w1 (fun _ => True) (some ⟨g, 0, none⟩) 1 [.iface u0 x0] := row_one hg2
  have hkids : ∀ i, i < 1 → IsTree w1 (fun _ => True) (([.iface u0 x0] : List Value).getD i .nilIface) (([T0] : List Tr).getD i default) := fun i hi => by
    obtain rfl : i = 0 := by omega
    exact hT0.keep (keeps_below hb1)
  have HKIDS := Lib.hid hkids
  clear hkids hT0 hg2
  clear ho
  go_wp2
  go_loopw [0, 10] (fun ev i wr => ∃ (k : Nat) (a1 : Option Addr) (n1 c1 : Nat), k ≤ 1 ∧ i = .int .i64 k ∧ ev = .slice a1 n1 c1 ∧ OwnT wr B a1 n1 c1 (ts ++ Tr.flats (([T0]).take k)) ∧ GrowsTo w1 (.slice a n c) wr (.slice a1 n1 c1)) (fun _ i _ => 1 - (intOf i).toNat)
  case atStart => exact ⟨0, a, n, c, Nat.zero_le _, rfl, rfl, by simpa [Tr.flats] using ho1, GrowsTo.refl _ _⟩
  case round =>
    obtain ⟨k, a1, n1, c1, hk, rfl, rfl, hown, hgr⟩ := hrel
    have hBr : B ≤ wr.heap.size := Nat.le_trans hB1 hgr.size
    by_cases hlt : k < 1
    · obtain ⟨b, o, hka, hbl, hcell⟩ := (hrow.keep (keeps_own ho1.1 hgr.1 (by decide))).at_ hlt
      have hkid := (HKIDS.out k hlt).keep (keeps_own ho1.1 hgr.1 (by decide))
      injection hka with hka; injection hka with e1 e2; subst e1 e2
      obtain ⟨u, y, hv⟩ := hkid.iface
      rw [hv] at hcell hkid
      clear hv
      have hkl := flats_take_le ([T0]) k (by simp; omega)
      have hko := oks_getD hok3 (i := k) (by simp; omega)
      have HS := Lib.hid (flats_take_succ ([T0]) k (by simp; omega))
      have hb3 : (ts ++ Tr.flats (([T0]).take k)).length + (([T0]).getD k default).flat.length ≤ 3000 := by rw [List.length_append]; omega
      have hb4 : (([T0]).getD k default).flat.length ≤ N := by omega
      simp only [Nat.zero_add] at hcell
      generalize ([T0]).getD k default = T1 at *
      go_wp2_with fail
      refine (ih.out _ _ wr B _ _ _ _ hb4 hko hkid hown hBr hb3).mono ?_
      rintro e w2 ⟨a2, n2, c2, rfl, hown2, hgr2⟩
      have hgr3 := hgr.trans hgr2
      clear hown hgr hgr2 hkid hcell hb3 hb4 hkl hko
      go_wp2
      go_roundw
      case rel => exact ⟨k + 1, a2, n2, c2, by omega, by go_num, rfl, by rw [HS.out, ← List.append_assoc]; exact hown2, hgr3⟩
      case measure => simp [intOf]; omega
    · obtain rfl : 1 = k := by omega
      have hall : Tr.flats (([T0]).take (1)) = Tr.flats ([T0]) := by rw [List.take_of_length_le (by simp)]
      rw [hall] at hown
      have hl2 : (ts ++ Tr.flats ([T0])).length ≤ 3000 := by rw [List.length_append]; omega
      have hn2 : n1 ≤ 3000 := by have := hown.len; omega
      clear hall hl2
      go_wp2_with fail
      refine (cell_term _ _ _ _).mono ?_
      rintro e w2 ⟨rfl, hb2⟩
      have hown2 := hown.below hb2
      have hgr2 := (GrowsTo.below_left hb1 hgr).below_right hb2
      have hs2 : B ≤ w2.heap.size := Nat.le_trans hBr hb2.size
      clear hown hgr hb2
      go_wp2_with (at_builtin; refine wpList_pushT _ rfl _ _ rfl B _ _ _ (ts ++ Tr.flats ([T0])) rfl (hown2.alloc _) w2.heap.size 2 x rfl (by simp) (by simp) hin (by omega) (by simp; omega) ?_)
      intro a3 c3 w3 hown3 hgr3
      have hgr4 := hgr2.trans (GrowsTo.below_left ((Below.refl _ _).alloc (Nat.le_refl _) _) hgr3)
      clear hown2 hgr2 hgr3
      go_wp2
      go_ret
      exact ⟨_, _, _, rfl, by rw [Tr.flat]; first | exact hown3 | (rw [← List.append_assoc]; exact hown3), hgr4⟩

set_option maxRecDepth 100000 in
set_option maxHeartbeats 1600000 in
theorem app_op (N : Nat) (ih : Hid (AppSaid N)) (k0 : Int) (ka : Option Addr) (m kc : Nat) (vs : List Value) (kids : List Tr) (w : World) (B : Nat) (a : Option Addr) (n c : Nat) (ts : List Tm) (hN : (Tr.node k0 0 kids).flat.length ≤ N + 1) (hok : (Tr.node k0 0 kids).okT) (hm3 : m ≤ 3) (hkl0 : Hid (kids.length = m)) (hrow0 : RowV w (fun _ => True) ka m vs) (hkids0 : Hid (∀ i, i < m → IsTree w (fun _ => True) (vs.getD i .nilIface) (kids.getD i default))) (ho : OwnT w B a n c ts) (hB : B ≤ w.heap.size) (hbd : ts.length + (Tr.node k0 0 kids).flat.length ≤ 3000) :
    Calls Tryz.prog 134 #[.slice a n c, .iface 216 (.agg #[.int .i64 k0, .slice ka m kc])] w (AppT w B a n c ts (Tr.node k0 0 kids)) := by
  have m1 := m_op_under (.int .i64 k0) (.slice ka m kc)
  have m2 := m_op_term (.int .i64 k0) (.slice ka m kc)
  have HL := Lib.hid ho.len
  have hn1 : n ≤ 3000 := by have := HL.out; omega
  have hin := okT_in hok
  simp only [Tr.okT] at hok
  have hok3 := hok.2.2; clear hok
  simp only [Tr.flat, List.length_append, List.length_singleton] at hN hbd
  go_enter Tryz.func134, Tryz.ntmps134
  go_wp2_with fail
  refine (op_under _ _ _ _ _).mono ?_
  rintro e w1 ⟨rfl, hb1⟩
  have ho1 := ho.below hb1
  have hB1 : B ≤ w1.heap.size := Nat.le_trans hB hb1.size
  have hrow := hrow0.keep (keeps_below hb1)
  have HKIDS := Lib.hid (show ∀ i, i < m → IsTree w1 (fun _ => True) (vs.getD i .nilIface) (kids.getD i default) from fun i hi => (hkids0.out i hi).keep (keeps_below hb1))
  clear hkids0 hrow0
  clear ho
  go_wp2
  go_loopw [0, 10] (fun ev i wr => ∃ (k : Nat) (a1 : Option Addr) (n1 c1 : Nat), k ≤ m ∧ i = .int .i64 k ∧ ev = .slice a1 n1 c1 ∧ OwnT wr B a1 n1 c1 (ts ++ Tr.flats ((kids).take k)) ∧ GrowsTo w1 (.slice a n c) wr (.slice a1 n1 c1)) (fun _ i _ => m - (intOf i).toNat)
  case atStart => exact ⟨0, a, n, c, Nat.zero_le _, rfl, rfl, by simpa [Tr.flats] using ho1, GrowsTo.refl _ _⟩
  case round =>
    obtain ⟨k, a1, n1, c1, hk, rfl, rfl, hown, hgr⟩ := hrel
    have hBr : B ≤ wr.heap.size := Nat.le_trans hB1 hgr.size
    by_cases hlt : k < m
    · obtain ⟨b, o, hka, hbl, hcell⟩ := (hrow.keep (keeps_own ho1.1 hgr.1 (by decide))).at_ hlt
      have hkid := (HKIDS.out k hlt).keep (keeps_own ho1.1 hgr.1 (by decide))
      subst hka
      obtain ⟨u, y, hv⟩ := hkid.iface
      rw [hv] at hcell hkid
      clear hv
      have hkl := flats_take_le (kids) k (by rw [hkl0.out]; omega)
      have hko := oks_getD hok3 (i := k) (by rw [hkl0.out]; omega)
      have HS := Lib.hid (flats_take_succ (kids) k (by rw [hkl0.out]; omega))
      have hb3 : (ts ++ Tr.flats ((kids).take k)).length + ((kids).getD k default).flat.length ≤ 3000 := by rw [List.length_append]; omega
      have hb4 : ((kids).getD k default).flat.length ≤ N := by omega
      skip
      generalize (kids).getD k default = T1 at *
      go_wp2_with fail
      refine (ih.out _ _ wr B _ _ _ _ hb4 hko hkid hown hBr hb3).mono ?_
      rintro e w2 ⟨a2, n2, c2, rfl, hown2, hgr2⟩
      have hgr3 := hgr.trans hgr2
      clear hown hgr hgr2 hkid hcell hb3 hb4 hkl hko
      go_wp2
      go_roundw
      case rel => exact ⟨k + 1, a2, n2, c2, by omega, by go_num, rfl, by rw [HS.out, ← List.append_assoc]; exact hown2, hgr3⟩
      case measure => simp [intOf]; omega
    · obtain rfl : m = k := by omega
      have hall : Tr.flats ((kids).take (m)) = Tr.flats (kids) := by rw [List.take_of_length_le (by rw [hkl0.out]; omega)]
      rw [hall] at hown
      have hl2 : (ts ++ Tr.flats (kids)).length ≤ 3000 := by rw [List.length_append]; omega
      have hn2 : n1 ≤ 3000 := by have := hown.len; omega
      clear hall hl2
      go_wp2_with fail
      refine (op_term _ _ _ _ _).mono ?_
      rintro e w2 ⟨rfl, hb2⟩
      have hown2 := hown.below hb2
      have hgr2 := (GrowsTo.below_left hb1 hgr).below_right hb2
      have hs2 : B ≤ w2.heap.size := Nat.le_trans hBr hb2.size
      clear hown hgr hb2
      go_wp2_with (at_builtin; refine wpList_pushT _ rfl _ _ rfl B _ _ _ (ts ++ Tr.flats (kids)) rfl (hown2.alloc _) w2.heap.size k0 0 rfl (by simp) (by simp) hin (by omega) (by simp; omega) ?_)
      intro a3 c3 w3 hown3 hgr3
      have hgr4 := hgr2.trans (GrowsTo.below_left ((Below.refl _ _).alloc (Nat.le_refl _) _) hgr3)
      clear hown2 hgr2 hgr3
      go_wp2
      go_ret
      exact ⟨_, _, _, rfl, by rw [Tr.flat]; first | exact hown3 | (rw [← List.append_assoc]; exact hown3), hgr4⟩

theorem app_all : ∀ N, AppSaid N := by
  intro N
  induction N with
  | zero => intro T v w B a n c ts hN; have := flat_pos T; omega
  | succ N ih =>
    have IH := Lib.hid ih
    clear ih
    intro T v w B a n c ts hN hok hT ho hB hbd
    cases hT with
    | num x => exact app_num N IH x w B a n c ts hN hok ho hB hbd
    | var x => exact app_var N IH x w B a n c ts hN hok ho hB hbd
    | cell x v0 T0 h0 =>
      obtain ⟨u0, x0, rfl⟩ := h0.iface
      exact app_cell N IH x u0 x0 T0 w B a n c ts hN hok h0 ho hB hbd
    | op k ka m kc vs kids h1 h2 h3 h4 h5 h6 => exact app_op N IH k ka m kc vs kids w B a n c ts hN hok h3 h4 h5 h6 ho hB hbd
theorem appendTree_any (T : Tr) (v : Value) (w : World) (B : Nat) (a : Option Addr) (n c : Nat) (ts : List Tm) (hok : T.okT) (hT : IsTree w (fun _ => True) v T) (ho : OwnT w B a n c ts) (hB : B ≤ w.heap.size) (hbd : ts.length + T.flat.length ≤ 3000) :
    Calls Tryz.prog 134 #[.slice a n c, v] w (AppT w B a n c ts T) := app_all _ T v w B a n c ts (Nat.le_refl _) hok hT ho hB hbd
end Go.Proofs.YtjboghmcmlkpoaaGreatDoor
