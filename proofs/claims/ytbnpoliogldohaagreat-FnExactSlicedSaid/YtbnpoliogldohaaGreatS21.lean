/- Joined texts of this proof (TextMath, Parts, First, SpecParts, SpecTrap0, SpecTrap), in build order. -/
import Derived.Test.YtbnpoliogldohaaGreatS1
import Derived.Lib.ItoaNum
import Derived.Test.YtbnpoliogldohaaGreatS16
import Derived.Test.YtbnpoliogldohaaGreatS3
import Derived.Test.YtbnpoliogldohaaGreatS20
import Derived.Test.YtbnpoliogldohaaGreatS10
/- Plain mathematics of texts: an expression in words, a line, a program in words. No Go text here. -/
namespace Go.Proofs.YtbnpoliogldohaaGreat
open Go.RowKit

def signsL : List (List UInt8) := [[43], [45], [42], [47], [37], [38], [124], [94], [60, 60], [62, 62], [61, 61], [60]]
/-- The sign of a Term that takes two. -/
def signS (op : Int) : List UInt8 := signsL.getD (op - 5).toNat []
/-- The name of a variable, of L Lows and S Secrets. -/
def varS (L S : Nat) (n : Int) : List UInt8 := if n < L then 108 :: Lib.itoa n else if n < (L : Int) + S then 115 :: Lib.itoa (n - L) else 116 :: Lib.itoa (n - L - S)
/-- A Term in words, of the words of what it takes. -/
def wordOf (L S : Nat) (op n : Int) (ks : List (List UInt8)) : List UInt8 :=
  if op = 0 then Lib.itoa n
  else if op = 1 then varS L S n
  else if op = 2 then 109 :: (Lib.itoa n ++ (91 :: (ks.getD 0 [] ++ [93])))
  else if op = 3 then 33 :: ks.getD 0 []
  else if op = 4 then 45 :: ks.getD 0 []
  else 40 :: (ks.getD 0 [] ++ (32 :: (signS op ++ (32 :: (ks.getD 1 [] ++ [41])))))
mutual
def Tr.words (L S : Nat) : Tr → List UInt8
  | .node op n kids => wordOf L S op n (Tr.wordss L S kids)
def Tr.wordss (L S : Nat) : List Tr → List (List UInt8)
  | [] => []
  | t :: r => t.words L S :: Tr.wordss L S r
end
/-! ### How long it is -/
theorem digs3 {n : Int} (h0 : 0 ≤ n) (h1 : n < 1000) : (Lib.itoa n).length ≤ 3 ∧ 1 ≤ (Lib.itoa n).length := by
  obtain ⟨k, rfl⟩ := Int.eq_ofNat_of_zero_le h0
  have e : Lib.itoa (k : Int) = Lib.decDigits k := by unfold Lib.itoa; rw [if_neg (by omega)]; rfl
  rw [e]
  by_cases h2 : k < 10
  · rw [Lib.decDigits, dif_pos h2]; simp
  rw [Lib.decDigits, dif_neg h2]
  by_cases h3 : k / 10 < 10
  · rw [Lib.decDigits, dif_pos h3]; simp
  rw [Lib.decDigits, dif_neg h3, Lib.decDigits, dif_pos (by omega)]; simp
theorem signS_len (op : Int) : (signS op).length ≤ 2 := by
  unfold signS
  generalize (op - 5).toNat = k
  match k with
  | 0 | 1 | 2 | 3 | 4 | 5 | 6 | 7 | 8 | 9 | 10 | 11 => decide
  | k + 12 => simp [signsL]
theorem varS_len {L S : Nat} {n : Int} (h0 : 0 ≤ n) (h1 : n < 256) : (varS L S n).length ≤ 4 := by
  unfold varS
  split
  · have := digs3 h0 (by omega); simp; omega
  · split
    · have := digs3 (n := n - L) (by omega) (by omega); simp; omega
    · have := digs3 (n := n - L - S) (by omega) (by omega); simp; omega
mutual
theorem words_len (L S : Nat) : ∀ t : Tr, t.okT → (t.words L S).length ≤ 8 * t.flat.length
  | .node op n kids, h => by
    simp only [Tr.okT] at h
    have hl := wordss_len L S kids h.2.2
    obtain ⟨h1, h2, h3, h4⟩ := (tOkB_iff _).1 h.1
    have hk := h.2.1
    simp only [] at h1 h2 h3
    simp only [Tr.words, Tr.flat, List.length_append, List.length_singleton]
    have hs := signS_len op
    have h0 : ((Tr.wordss L S kids).getD 0 []).length + ((Tr.wordss L S kids).getD 1 []).length ≤ ((Tr.wordss L S kids).map List.length).sum := by
      match Tr.wordss L S kids with
      | [] => simp
      | [a] => simp
      | a :: b :: r => simp only [List.getD_cons_zero, List.getD_cons_succ, List.map_cons, List.sum_cons]; omega
    unfold wordOf
    split
    · have := digs3 h2 (by omega); omega
    split
    · have := varS_len (L := L) (S := S) h2 (by omega); omega
    split
    · have := digs3 h2 (by omega); simp only [List.length_cons, List.length_append, List.length_nil]; omega
    split
    · simp only [List.length_cons]; omega
    split
    · simp only [List.length_cons]; omega
    · simp only [List.length_cons, List.length_append, List.length_nil]; omega
theorem wordss_len (L S : Nat) : ∀ ts : List Tr, Tr.oks ts → ((Tr.wordss L S ts).map List.length).sum ≤ 8 * (Tr.flats ts).length
  | [], _ => by simp [Tr.wordss, Tr.flats]
  | t :: r, h => by
    simp only [Tr.oks] at h
    have h1 := words_len L S t h.1
    have h2 := wordss_len L S r h.2
    simp only [Tr.wordss, Tr.flats, List.map_cons, List.sum_cons, List.length_append]
    omega
end

/-- An expression in words. -/
def expS (L S : Nat) (ts : List Tm) : List UInt8 := match stackOf ts with | [T] => T.words L S | _ => []
mutual
theorem fold_flat : ∀ (T : Tr) (S : List Tr), T.okT → T.flat.foldl stepS S = S ++ [T]
  | .node op n kids, S, h => by
    simp only [Tr.okT] at h
    simp only [Tr.flat, List.foldl_append, List.foldl_cons, List.foldl_nil]
    rw [fold_flats kids S h.2.2]
    unfold stepS
    have hk : (takesI op).toNat = kids.length := by have := h.2.1; omega
    simp only [hk, List.length_append, Nat.add_sub_cancel]
    rw [List.take_left, List.drop_left]
theorem fold_flats : ∀ (ts : List Tr) (S : List Tr), Tr.oks ts → (Tr.flats ts).foldl stepS S = S ++ ts
  | [], S, _ => by simp [Tr.flats]
  | t :: r, S, h => by
    simp only [Tr.oks] at h
    simp only [Tr.flats, List.foldl_append]
    rw [fold_flat t S h.1, fold_flats r _ h.2]
    simp
end
/-- What was flattened is the tree again. -/
theorem stackOf_flat (T : Tr) (h : T.okT) : stackOf T.flat = [T] := by
  have := fold_flat T [] h
  simpa [stackOf] using this
end Go.Proofs.YtbnpoliogldohaaGreat
/- The contract of the program's PartsOf: the Terms of each tree under the last one, each in memory of its own. -/
namespace Go.Proofs.YtbnpoliogldohaaGreat
open Go.RowKit

/-- What PartsOf answers. -/
def partsL (ts : List Tm) : List (List Tm) := if expB ts = true then (match stackOf ts with | [.node _ _ kids] => kids.map Tr.flat | _ => []) else []
theorem partsL_no {ts : List Tm} (h : expB ts = false) : partsL ts = [] := by unfold partsL; rw [h]; rfl
theorem partsL_yes {ts : List Tm} {op n : Int} {kids : List Tr} (h : expB ts = true) (hs : stackOf ts = [.node op n kids]) : partsL ts = kids.map Tr.flat := by unfold partsL; rw [if_pos h, hs]
theorem Keeps.trans {w w1 w2 : World} {F F1 F2 : Nat → Prop} (h : Keeps w F w1 F1) (k : Keeps w1 F1 w2 F2) : Keeps w F w2 F2 := fun b cur fz hF hh => by
  obtain ⟨e1, f1⟩ := h b cur fz hF hh
  obtain ⟨e2, f2⟩ := k b cur fz f1 (e1.trans hh)
  exact ⟨e2.trans e1, f2⟩
end Go.Proofs.YtbnpoliogldohaaGreat
/- The contracts of the two functions FirstOf (the program's and the model's), and of the model's l2First. -/
namespace Go.Proofs.YtbnpoliogldohaaGreat
open Go.RowKit

theorem scan_succ (ts : List Tm) (i : Nat) (need : Int) : scan ts (i + 1) need = if need - 1 + takesI (tmAt ts i).1 = 0 then i else scan ts i (need - 1 + takesI (tmAt ts i).1) := rfl

set_option maxHeartbeats 800000 in
theorem l2First_any (a : Option Addr) (n c : Nat) (ts : List Tm) (w : World) (h : Terms w a n ts) (at_ : Int) (h0 : 0 ≤ at_) (h1 : at_ < n) (q : Nat) (hq : Hid (scan ts (at_.toNat + 1) 1 = q)) :
    Calls Tryz.prog 170 #[.slice a n c, .int .i64 at_] w fun e w' => e = .returned (.int .i64 q) ∧ Below w.heap.size w w' := by
  obtain ⟨m, rfl⟩ := Int.eq_ofNat_of_zero_le h0
  rw [Int.toNat_natCast] at hq
  have hm : m < n := by omega
  have HL := Lib.hid h.1
  have hbd := h.2.1
  clear h0 h1
  go_enter Tryz.func170, Tryz.ntmps170
  go_wp2
  go_loopw [5, 6] (fun l i wr => ∃ (k : Nat) (d : Int), k ≤ m + 1 ∧ i = .int .i64 ((k : Int) - 1) ∧ l = .int .i64 d ∧ -4194304 ≤ d - (k : Int) * 3 ∧ d ≤ 1 + (m + 1 - (k : Int)) * 2 ∧ 1 - (m + 1 - (k : Int)) * 2 ≤ d ∧ Hid (scan ts k d = q) ∧ Below w.heap.size w wr) (fun _ i _ => (intOf i + 1).toNat)
  case atStart => exact ⟨m + 1, 1, Nat.le_refl _, by go_num, rfl, by omega, by omega, by omega, hq, Below.refl _ _⟩
  case round =>
    obtain ⟨k, d, hk, rfl, rfl, hd0, hd1, hd2, hr, hbel⟩ := hrel
    by_cases hp : 0 < k
    · obtain ⟨j, rfl⟩ : ∃ j, k = j + 1 := ⟨k - 1, by omega⟩
      rw [show (((j + 1 : Nat) : Int) - 1) = (j : Int) by omega]
      obtain ⟨b, o, x, y, rfl, hb, hz, hin1, hin2, hc1, hc2⟩ := (h.below (Nat.le_refl _) hbel).at_ (k := j) (by omega)
      obtain ⟨t, HT⟩ : ∃ t, Hid (takesI x = t) := ⟨_, rfl⟩
      have ht := takesI_range x
      rw [HT.out] at ht
      obtain ⟨ht0, ht1⟩ := ht
      have HS : Hid ((if d - 1 + t = 0 then j else scan ts j (d - 1 + t)) = q) := by
        show _ = _
        have := hr.out
        rw [scan_succ, hz.out] at this
        rw [← HT.out]
        exact this
      clear hr
      go_wp2_with fail
      refine (specTakes_any _ _).mono ?_
      rintro e w1 ⟨rfl, hb1⟩
      have ht1' : Below w.heap.size w w1 := hbel.trans (hb1.mono hbel.size)
      rw [HT.out]
      clear hb1 hbel hc1 hc2
      by_cases hz0 : d - 1 + t = 0
      · have hbb : (d - 1 + t == 0) = true := by simpa using hz0
        have hqj : j = q := by have := HS.out; rwa [if_pos hz0] at this
        have HQJ := Lib.hid hqj
        clear hqj
        have hz0' := Lib.hid hz0
        clear hz0
        go_wp2
        go_ret
        exact ⟨ret_int (by rw [HQJ.out]), ht1'⟩
      · have hbb : (d - 1 + t == 0) = false := by simpa using hz0
        have HS2 : Hid (scan ts j (d - 1 + t) = q) := by show _ = _; have := HS.out; rwa [if_neg hz0] at this
        go_wp2
        go_roundw
        case rel => exact ⟨j, d - 1 + t, by omega, by go_num, rfl, by omega, by omega, by omega, HS2, ht1'⟩
        case measure => simp [intOf]
    · have hk0 : k = 0 := by omega
      subst hk0
      have hq0 : 0 = q := hr.out
      subst hq0
      go_wp2
      go_ret
      exact ⟨rfl, hbel⟩

/-- What is needed at a place, told by what is left ahead of it and behind. -/
def NeedIs (ts : List Tm) (m k : Nat) (wanted : Int) : Prop := ∃ dk dm : Int, runD 0 (ts.take k) = some dk ∧ runD 0 (ts.take (m + 1)) = some dm ∧ wanted = dk - dm + 1
theorem NeedIs.start {ts : List Tm} {m : Nat} {x : Int} (h : runD 0 ts = some x) (hm : m < ts.length) : NeedIs ts m m (takesI (tmAt ts m).1) := by
  obtain ⟨d, hd, _⟩ := runD_take h m
  obtain ⟨_, _, h3⟩ := runD_at h hm hd
  exact ⟨d, _, hd, h3, by omega⟩
theorem NeedIs.zero {ts : List Tm} {m : Nat} {wanted : Int} (hm : m < ts.length) (hn : NeedIs ts m 0 wanted) : wanted ≤ 0 := by
  obtain ⟨dk, dm, h1, h2, h3⟩ := hn
  have e : dk = 0 := by rw [List.take_zero] at h1; simp only [runD] at h1; injection h1 with h1; omega
  have := runD_pos h2 (Int.le_refl _) (by rw [List.length_take]; omega)
  omega

end Go.Proofs.YtbnpoliogldohaaGreat
/- The contract of the model's PartsOf, and of its l2Copy. -/
namespace Go.Proofs.YtbnpoliogldohaaGreat
open Go.RowKit

set_option maxHeartbeats 400000 in
theorem l2Copy_any (b o n c : Nat) (ts : List Tm) (w : World) (h : Terms w (some ⟨b, o, none⟩) n ts) (hb : b < w.heap.size) :
    Calls Tryz.prog 113 #[.slice (some ⟨b, o, none⟩) n c] w (MadeT w ts) := by
  have HL := Lib.hid h.1
  have hbd := h.2.1
  have HN : Hid (∀ (ob : Obj) j u, (flatV ts)[j]? = some u → (w.alloc ob).cell? ((⟨b, o, none⟩ : Addr).add j) = some u) := fun ob j u hj => by
    have := terms_news h j u hj
    rw [Go.WideShapes.add_plain] at this ⊢
    rw [World.cell?_alloc_lt w ob _ hb]; exact this
  go_enter Tryz.func113, Tryz.ntmps113
  go_wp2_with (at_builtin; refine wpList_pushG _ rfl _ _ 71 138 (.agg #[.int .i64 0, .int .i64 0]) 2 16 rfl Tryz.underlying71 info_term rfl (by omega) w.heap.size _ 0 0 [] rfl (own_emptyT w _ (Nat.le_refl _)) ⟨b, o, none⟩ n c (flatV ts) rfl (by rw [flatV_len, HL.out]) (HN.out _) (flatV_one ts) (by unfold maxLen; omega) (by omega) (by simp) ?_)
  intro a1 c1 w1 hown hgr
  have hb1 : Below w.heap.size w w1 := ((Below.refl _ _).alloc (Nat.le_refl _) _).grown hgr.1 (by simp) (fun k hk => by simp [Value.ownBlock] at hk; omega)
  have hot : OwnT w1 w.heap.size a1 n c1 ts := ⟨by simpa using hown, hbd, h.2.2.1⟩
  clear hown hgr
  go_wp2
  go_ret
  exact ⟨a1, n, c1, rfl, hot, hb1⟩

/-- A part of a slice of Terms. -/
theorem Terms.part {w : World} {b o n : Nat} {ts p t q : List Tm} (h : Terms w (some ⟨b, o, none⟩) n ts) (e : ts = p ++ (t ++ q)) : Terms w (some ⟨b, o + p.length * 2, none⟩) t.length t := by
  obtain ⟨hl, hn, hin, hc⟩ := h
  have hlen : ts.length = p.length + (t.length + q.length) := by rw [e]; simp
  refine ⟨rfl, by omega, fun x hx => hin x (by rw [e]; simp [hx]), fun hp => ?_⟩
  obtain ⟨b', o', ea, hb, hcell⟩ := hc (by omega)
  injection ea with ea
  injection ea with e1 e2
  subst e1 e2
  refine ⟨b, _, rfl, hb, fun i hi => ?_⟩
  have := hcell (p.length + i) (by omega)
  have et : tmAt ts (p.length + i) = tmAt t i := by rw [e, tmAt_append_right, tmAt_append_left hi]
  rw [et, show o + (p.length + i) * 2 = o + p.length * 2 + i * 2 by omega] at this
  exact this

theorem ownSS_cons {w0 w w' : World} {B : Nat} {a : Option Addr} {n c : Nat} {rs : List Sl} {tss : List (List Tm)} {o : Obj} {a1 : Option Addr} {c1 : Nat} {r : Sl} {ts : List Tm}
    (h0 : OwnSS w0 B a n c rs tss) (hb : Below w0.heap.size w0 w) (hr : OwnT w w0.heap.size r.1 r.2.1 r.2.2 ts) (hB : B ≤ w0.heap.size)
    (hg : (w.alloc o).grownBy w' (some w.heap.size)) (hown : w'.ownsRow B 71 1 (.slice a1 (1 + n) c1) (1 + n) ([slV r] ++ rs.map slV)) (hn : 1 + n ≤ 3000) :
    OwnSS w' B a1 (1 + n) c1 (r :: rs) (ts :: tss) := by
  have hl := h0.len
  obtain ⟨h11, h12, h13, h14, h15⟩ := h0.below hb
  have hkeep : ∀ {B' : Nat} {x : Sl} {us : List Tm}, OwnT w B' x.1 x.2.1 x.2.2 us → OwnT w' B' x.1 x.2.1 x.2.2 us := fun hx =>
    (hx.alloc o).apart hg (fun g hgg e => by have := (hx.block g hgg).2; injection e with e; omega)
  refine ⟨by simpa using hown, hn, by simp [h13]; omega, fun i hi => ?_, fun i j g hi hj hgi hgj => ?_⟩
  · cases i with
    | zero => exact hkeep (hr.base hB)
    | succ i => exact hkeep (h14 i (by omega))
  · have hnew : ∀ g, (slV r).ownBlock = some g → w0.heap.size ≤ g := fun g hg => (hr.block g hg).1
    have hold : ∀ i, i < n → ∀ g, (slV (slAt rs i)).ownBlock = some g → g < w0.heap.size := fun i hi g hg => ((h0.2.2.2.1 i hi).block g hg).2
    cases i with
    | zero =>
      cases j with
      | zero => rfl
      | succ j =>
        have := hold j (by omega) g hgj
        have := hnew g hgi
        omega
    | succ i =>
      cases j with
      | zero =>
        have := hold i (by omega) g hgi
        have := hnew g hgj
        omega
      | succ j => rw [h15 i j g (by omega) (by omega) hgi hgj]

set_option maxRecDepth 100000 in
set_option maxHeartbeats 1600000 in
theorem specPartsOf_any (a : Option Addr) (n c : Nat) (ts : List Tm) (w : World) (h : Terms w a n ts) (hc : n ≤ c) :
    Calls Tryz.prog 169 #[.slice a n c] w (MadeSS w (partsL ts)) := by
  have HL := Lib.hid h.1
  cases hok : expB ts with
  | false =>
    have HP := Lib.hid (partsL_no hok)
    have HK := Lib.hid hok
    clear hok
    go_enter Tryz.func169, Tryz.ntmps169
    go_wp2_with fail
    refine (specExpOk_any _ _ _ ts _ (h.below (Nat.le_refl _) ((Below.refl _ _).alloc (Nat.le_refl _) _))).mono ?_
    rintro e w1 ⟨rfl, hb1⟩
    rw [HK.out]
    go_wp2_with fail
    go_ret
    exact ⟨_, _, _, [], rfl, by rw [HP.out]; exact (ownSS_empty w w.heap.size (Nat.le_refl _)).below hb1, ((Below.refl _ _).alloc (Nat.le_refl _) _).trans (hb1.mono (by simp))⟩
  | true =>
    have HK := Lib.hid hok
    have hle := ((expB_iff ts).1 hok).1
    have hn : n ≤ 3000 := by have := HL.out; omega
    obtain ⟨op, nn, kids, hstk, hts, hop, hkl, hkok⟩ := tree_of ((expB_iff ts).1 hok).2
    have HP := Lib.hid (partsL_yes hok hstk)
    have HTS := Lib.hid hts
    have hnl : n = (Tr.flats kids).length + 1 := by
      have e := congrArg List.length hts
      rw [List.length_append, List.length_singleton] at e
      rw [← HL.out]; exact e
    obtain ⟨b, o, x, y, rfl, hb, hz, hin1, hin2, hc1, hc2⟩ := h.at_ (k := n - 1) (by omega)
    have hxop : x = op := by
      have e : tmAt ts (n - 1) = (op, nn) := by
        rw [hts, show n - 1 = (Tr.flats kids).length + 0 by omega, tmAt_append_right]; rfl
      rw [hz.out] at e
      injection e
    subst hxop
    obtain ⟨q, HQ⟩ : ∃ q, Hid (kids.length = q) := ⟨_, rfl⟩
    have HKL : Hid (takesI x = (q : Int)) := by show _ = _; rw [← hkl, HQ.out]
    have hq3 : q ≤ 3 := by have := HKL.out; have := takesI_range x; omega
    clear hok hstk hts hop hle hkl
    have hnl1 : (n : Int) - 2 = ((Tr.flats (kids.take q)).length : Int) - 1 := by rw [List.take_of_length_le (by rw [HQ.out]; exact Nat.le_refl _)]; omega
    have HNL := Lib.hid hnl1
    have hn0 : 0 < n := by omega
    have hfn : (Tr.flats kids).length < n := by omega
    clear hnl hnl1
    have hss0 := (ownSS_empty w w.heap.size (Nat.le_refl _))
    go_enter Tryz.func169, Tryz.ntmps169
    go_wp2_with fail
    refine (specExpOk_any _ _ _ ts _ (h.below (Nat.le_refl _) ((Below.refl _ _).alloc (Nat.le_refl _) _))).mono ?_
    rintro e w1 ⟨rfl, hb1⟩
    rw [HK.out]
    have ht1 : Below w.heap.size w w1 := ((Below.refl _ _).alloc (Nat.le_refl _) _).trans (hb1.mono (by simp))
    have hd1 : w1.cell? ⟨b, o + (n - 1) * 2, none⟩ = some (.int .i64 x) := (ht1.cell hb).trans hc1
    have hss1 := hss0.below hb1
    clear hss0 hb1 hc1 hc2
    go_wp2_with fail
    refine (specTakes_any _ _).mono ?_
    rintro e w2 ⟨rfl, hb2⟩
    rw [HKL.out, HNL.out]
    have ht2 : Below w.heap.size w w2 := ht1.trans (hb2.mono ht1.size)
    have hss2 := hss1.below hb2
    clear hss1 hb2 hd1 ht1
    go_wp2
    go_loopw [3, 4, 5] (fun out en nv wr => ∃ (j g0 pn pc : Nat) (rs : List Sl), j ≤ q ∧ nv = .int .i64 j ∧ en = .int .i64 (((Tr.flats (kids.take j)).length : Int) - 1) ∧ out = .slice (some ⟨g0, 0, none⟩) pn pc ∧ Hid (pn + j = q) ∧ OwnSS wr w.heap.size (some ⟨g0, 0, none⟩) pn pc rs ((kids.drop j).map Tr.flat) ∧ Below w.heap.size w wr) (fun _ _ nv _ => (intOf nv).toNat)
    case atStart => exact ⟨q, w.heap.size, 0, 0, [], Nat.le_refl _, rfl, rfl, rfl, Nat.zero_add _, by rw [List.drop_of_length_le (by rw [HQ.out]; exact Nat.le_refl _)]; exact hss2, ht2⟩
    case round =>
      clear hss2 ht2
      obtain ⟨j, g0, pn, pc, rs, hj, rfl, rfl, rfl, hpn, hss, hbel⟩ := hrel
      by_cases hp : 0 < j
      · obtain ⟨i, rfl⟩ : ∃ i, j = i + 1 := ⟨j - 1, by omega⟩
        obtain ⟨L, HL0⟩ : ∃ L, Hid ((Tr.flats (kids.take i)).length = L) := ⟨_, rfl⟩
        obtain ⟨K, HK0⟩ : ∃ K, Hid ((kids.getD i default).flat.length = K) := ⟨_, rfl⟩
        have hki : i < kids.length := by rw [HQ.out]; omega
        have HL1 : Hid ((Tr.flats (kids.take (i + 1))).length = L + K) := by show _ = _; rw [flats_take_succ kids i hki, List.length_append, HL0.out, HK0.out]
        have hK1 : 1 ≤ K := by rw [← HK0.out]; exact flat_pos _
        have hLK : L + K < n := by have := flats_take_le kids i hki; rw [HL0.out, HK0.out] at this; omega
        have HTS2 : Hid (ts = Tr.flats (kids.take i) ++ ((kids.getD i default).flat ++ (Tr.flats (kids.drop (i + 1)) ++ [(x, nn)]))) := by
          show _ = _
          rw [HTS.out]
          have e : kids = kids.take i ++ ([kids.getD i default] ++ kids.drop (i + 1)) := by
            rw [List.getD_eq_getElem?_getD, List.getElem?_eq_getElem hki]
            simp
          conv => lhs; rw [e]
          rw [flats_append, flats_append, flats_one]
          simp
        have hsc : ∀ at_ : Int, at_ = (L : Int) + (K : Int) - 1 → scan ts (at_.toNat + 1) 1 = L := by
          intro at_ e
          have := scan_flat (kids.getD i default) (Tr.flats (kids.take i)) (Tr.flats (kids.drop (i + 1)) ++ [(x, nn)]) 1 (by omega) (oks_getD hkok hki)
          rw [← HTS2.out, if_pos rfl, HL0.out, HK0.out] at this
          rw [show at_.toNat + 1 = L + K by omega]
          exact this
        have HSC := Lib.hid hsc
        clear hsc
        have hTer := h.below (Nat.le_refl _) hbel
        have hpart := hTer.part HTS2.out
        rw [HL0.out, HK0.out] at hpart
        have hbr : b < wr.heap.size := Nat.lt_of_lt_of_le hb hbel.size
        have HM : Hid ((kids.drop i).map Tr.flat = (kids.getD i default).flat :: (kids.drop (i + 1)).map Tr.flat) := by
          show _ = _
          rw [List.drop_eq_getElem_cons hki, List.getD_eq_getElem?_getD, List.getElem?_eq_getElem hki]; rfl
        generalize (kids.getD i default).flat = f1 at *
        rw [HL1.out]
        go_wp2_with fail
        refine (l2First_any _ _ _ ts _ hTer _ (by omega) (by omega) L (HSC.out _ (by omega))).mono ?_
        rintro e w3 ⟨rfl, hb3⟩
        have hss3 := hss.below hb3
        have hpart3 := hpart.below (Nat.le_refl _) hb3
        have hbs3 : wr.heap.size ≤ w3.heap.size := hb3.size
        have ht3 : Below w.heap.size w w3 := hbel.trans (hb3.mono hbel.size)
        clear hTer hpart hss hb3
        go_wp2_with fail
        refine (l2Copy_any _ _ _ _ f1 _ hpart3 (by omega)).mono ?_
        rintro e w4 ⟨a4, n4, c4, rfl, hown4, hb4⟩
        have hss4 := hss3.below hb4
        have hbs4 : w3.heap.size ≤ w4.heap.size := hb4.size
        have hw3 : w.heap.size ≤ w3.heap.size := ht3.size
        have HN : Hid (∀ (ob : Obj) jj u, (rs.map slV)[jj]? = some u → (w4.alloc ob).cell? ((⟨g0, 0, none⟩ : Addr).add jj) = some u) := fun ob jj u hjj => (hss4.1.alloc ob).cells (g := g0) rfl jj u hjj
        have hrl : (rs.map slV).length = pn := by rw [List.length_map]; exact hss4.len
        have HRL := Lib.hid hrl
        have hpn3 : pn ≤ 3 := by have := hpn.out; omega
        clear hrl hpart3
        go_wp2_with (at_builtin; refine wpList_pushG _ rfl _ _ 205 71 (.slice none 0 0) 1 24 rfl Tryz.underlying205 info_terms rfl (by omega) w.heap.size _ 1 1 [slV (a4, n4, c4)] rfl (World.ownsRow_lit w4 #[slV (a4, n4, c4)] 1 (by omega) (by unfold maxLen; omega) rfl) ⟨g0, 0, none⟩ pn pc (rs.map slV) rfl (by rw [HRL.out]; omega) (HN.out _) (fun u hu => by obtain ⟨r, _, rfl⟩ := List.mem_map.1 hu; rfl) (by unfold maxLen; omega) (by omega) (by simp; omega) ?_)
        intro a5 c5 w5 hown5 hgr5
        have hg5 : ∃ g5, a5 = some ⟨g5, 0, none⟩ := by
          rcases hown5.2 with ⟨_, h0⟩ | ⟨g, cap, cur, e, _⟩
          · omega
          · exact ⟨g, by injection e⟩
        obtain ⟨g5, rfl⟩ := hg5
        have hss5 := ownSS_cons (r := (a4, n4, c4)) hss3 hb4 hown4 hw3 hgr5.1 hown5 (by omega)
        have ht5 : Below w.heap.size w w5 := ((ht3.trans (hb4.mono hw3)).alloc (by omega) _).grown hgr5.1 (by simp; omega) (fun g hg => by simp [Value.ownBlock] at hg; omega)
        have hpn5 : Hid (1 + pn + i = q) := by show _ = _; have := hpn.out; omega
        clear hss3 hss4 hown4 hown5 hgr5 hb4 ht3 HN HRL hpn
        go_wp2
        go_roundw
        case rel => exact ⟨i, g5, 1 + pn, c5, (a4, n4, c4) :: rs, by omega, by go_num, by rw [HL0.out], rfl, hpn5, by rw [HM.out]; exact hss5, ht5⟩
        case measure => simp [intOf]
      · obtain rfl : j = 0 := by omega
        have hpn0 : pn = q := by have := hpn.out; omega
        rw [List.drop_zero] at hss
        go_wp2
        go_ret
        exact ⟨_, _, _, rs, rfl, by rw [HP.out]; exact hss, hbel⟩
end Go.Proofs.YtbnpoliogldohaaGreat
/- The model's MayTrap: its l9Known; and what its look at each Term has to do with the trees. -/
namespace Go.Proofs.YtbnpoliogldohaaGreat
open Go.RowKit

/-- One number below a limit (and not 0, where so). -/
def knownB (ts : List Tm) (below : Int) (nt : Bool) : Bool := decide (ts.length = 1) && (decide ((tmAt ts 0).1 = 0) && (decide ((tmAt ts 0).2 < below) && !(nt && decide ((tmAt ts 0).2 = 0))))
theorem known_flat (op n : Int) (kids : List Tr) (hok : (Tr.node op n kids).okT) (below : Int) (nt : Bool) : knownB (Tr.node op n kids).flat below nt = (decide (op = 0) && (decide (n < below) && !(nt && decide (n = 0)))) := by
  have h := hok
  simp only [Tr.okT] at h
  cases kids with
  | nil => simp [knownB, Tr.flat, Tr.flats, tmAt]
  | cons t r =>
    have h0 : ¬ op = 0 := fun e => by
      have h2 := h.2.1
      rw [e] at h2
      have : takesI 0 = 0 := rfl
      simp only [List.length_cons] at h2
      omega
    have hp := flat_pos t
    have hl : ¬ ((Tr.node op n (t :: r)).flat.length = 1) := by
      simp only [Tr.flat, Tr.flats, List.length_append, List.length_singleton]
      omega
    rw [knownB, decide_eq_false hl, decide_eq_false h0]
    rfl
theorem known_cell (T : Tr) (hok : T.okT) (z : Int) : isNumB 0 (z - 1) T = knownB T.flat z false := by
  cases T with
  | node op n kids =>
    rw [known_flat op n kids hok]
    simp only [Tr.okT] at hok
    obtain ⟨_, h2, _, _⟩ := (tOkB_iff _).1 hok.1
    simp only [] at h2
    have e : decide (n ≤ z - 1) = decide (n < z) := by rw [decide_eq_decide]; omega
    simp [isNumB, h2, e]
theorem known_div (T : Tr) (hok : T.okT) (S : Int) (hS : ∀ n kids, T = .node 0 n kids → n < S) : isNumB 1 255 T = knownB T.flat S true := by
  cases T with
  | node op n kids =>
    rw [known_flat op n kids hok]
    simp only [Tr.okT] at hok
    obtain ⟨_, h2, h3, _⟩ := (tOkB_iff _).1 hok.1
    simp only [] at h2 h3
    by_cases h0 : op = 0
    · subst h0
      have h4 := hS n kids rfl
      have e : (decide (1 ≤ n)) = !(decide (n = 0)) := by
        by_cases hn : n = 0
        · subst hn; rfl
        · rw [decide_eq_true (by omega), decide_eq_false hn]; rfl
      simp [isNumB, h3, h4, e]
    · simp [isNumB, h0]
theorem traps_node (sz : List Int) (op n : Int) (kids : List Tr) : (Tr.node op n kids).trap sz = (headT sz op n kids || Tr.traps sz kids) := by simp only [Tr.trap]
/-- The tree that ends at a Term. -/
theorem top_at {ts : List Tm} {x : Int} (h : runD 0 ts = some x) {i : Nat} (hi : i < ts.length) : ∃ (pre : List Tm) (kids : List Tr),
    ts = pre ++ ((Tr.node (tmAt ts i).1 (tmAt ts i).2 kids).flat ++ ts.drop (i + 1)) ∧ (Tr.node (tmAt ts i).1 (tmAt ts i).2 kids).okT ∧ pre.length + (Tr.node (tmAt ts i).1 (tmAt ts i).2 kids).flat.length = i + 1 ∧
    ∀ sz, Tr.traps sz (stackOf (ts.take (i + 1))) = (Tr.traps sz (stackOf (ts.take i)) || headT sz (tmAt ts i).1 (tmAt ts i).2 kids) := by
  obtain ⟨d, h1, h2, h3, h4⟩ := stack_take h (i + 1)
  rw [stackOf_succ ts i hi, stepS] at h2 h3 h4
  obtain ⟨K, hK⟩ : ∃ K, (stackOf (ts.take i)).length - (takesI (tmAt ts i).1).toNat = K := ⟨_, rfl⟩
  rw [hK] at h2 h3 h4
  rw [flats_append, flats_one] at h3
  have h5 := (oks_append _ _).1 h4
  refine ⟨Tr.flats ((stackOf (ts.take i)).take K), (stackOf (ts.take i)).drop K, ?_, ?_, ?_, fun sz => ?_⟩
  · rw [← List.append_assoc, h3, List.take_append_drop]
  · have := h5.2
    simp only [Tr.oks] at this
    exact this.1
  · have e := congrArg List.length h3
    rw [List.length_append, List.length_take] at e
    omega
  · rw [stackOf_succ ts i hi, stepS, hK, traps_append]
    have e : Tr.traps sz (stackOf (ts.take i)) = (Tr.traps sz ((stackOf (ts.take i)).take K) || Tr.traps sz ((stackOf (ts.take i)).drop K)) := by rw [← traps_append, List.take_append_drop]
    rw [e]
    simp only [Tr.traps, traps_node, Bool.or_false]
    cases Tr.traps sz ((stackOf (ts.take i)).take K) <;> cases Tr.traps sz ((stackOf (ts.take i)).drop K) <;> cases headT sz (tmAt ts i).1 (tmAt ts i).2 ((stackOf (ts.take i)).drop K) <;> rfl

set_option maxHeartbeats 1600000 in
theorem l9Known_any (a : Option Addr) (n c : Nat) (ts : List Tm) (below : Int) (nt : Bool) (w : World) (h : Terms w a n ts) :
    Calls Tryz.prog 112 #[.slice a n c, .int .i64 below, .bool nt] w fun e w' => e = .returned (.bool (knownB ts below nt)) ∧ Below w.heap.size w w' := by
  have HL := Lib.hid h.1
  by_cases hn : n = 1
  · subst hn
    obtain ⟨b, o, x, y, rfl, hb, hz, hin1, hin2, hc1, hc2⟩ := h.at_ (k := 0) (by omega)
    rw [Nat.zero_mul, Nat.add_zero] at hc1 hc2
    have HR : Hid (knownB ts below nt = (decide (x = 0) && (decide (y < below) && !(nt && decide (y = 0))))) := Lib.hid (by rw [knownB, HL.out, hz.out]; simp)
    rw [HR.out]
    clear HR h hz HL
    by_cases hx : x = 0
    · by_cases hy : y < below
      · cases nt
        · go_enter Tryz.func112, Tryz.ntmps112
          go_wp2
          go_ret
          exact ⟨ret_bool (by simp [hx, hy]), Below.refl _ _⟩
        · by_cases hy0 : y = 0
          · go_enter Tryz.func112, Tryz.ntmps112
            go_wp2
            go_ret
            exact ⟨ret_bool (by simp [hx, hy0]), Below.refl _ _⟩
          · go_enter Tryz.func112, Tryz.ntmps112
            go_wp2
            go_ret
            exact ⟨ret_bool (by simp [hx, hy, hy0]), Below.refl _ _⟩
      · go_enter Tryz.func112, Tryz.ntmps112
        go_wp2
        go_ret
        exact ⟨ret_bool (by rw [decide_eq_false (show ¬ y < below by omega)]; simp), Below.refl _ _⟩
    · go_enter Tryz.func112, Tryz.ntmps112
      go_wp2
      go_ret
      exact ⟨ret_bool (by simp [hx]), Below.refl _ _⟩
  · have HR : Hid (knownB ts below nt = false) := Lib.hid (by rw [knownB, HL.out, decide_eq_false hn]; rfl)
    rw [HR.out]
    have hbd := h.2.1
    clear HR h HL
    go_enter Tryz.func112, Tryz.ntmps112
    go_wp2
    go_ret
    exact ⟨ret_bool rfl, Below.refl _ _⟩
end Go.Proofs.YtbnpoliogldohaaGreat
/- The contracts of the model's l9May and MayTrap. -/
namespace Go.Proofs.YtbnpoliogldohaaGreat
open Go.RowKit

theorem tsAt_mapF (kids : List Tr) (i : Nat) (h : i < kids.length) : tsAt (kids.map Tr.flat) i = (kids.getD i default).flat := by
  simp [tsAt, List.getD_eq_getElem?_getD, List.getElem?_eq_getElem h]
theorem traps_stay {ts : List Tm} {x : Int} (h : runD 0 ts = some x) (sz : List Int) {i : Nat} (hi : i ≤ ts.length) (ht : Tr.traps sz (stackOf (ts.take i)) = true) : Tr.traps sz (stackOf ts) = true := by
  obtain ⟨m, hm⟩ : ∃ m, i + m = ts.length := ⟨ts.length - i, by omega⟩
  induction m generalizing i with
  | zero =>
    have e : ts.take i = ts := List.take_of_length_le (by omega)
    rwa [e] at ht
  | succ m ih =>
    obtain ⟨_, kids, _, _, _, e⟩ := top_at h (i := i) (by omega)
    exact ih (i := i + 1) (by omega) (by rw [e sz, ht]; rfl) (by omega)
set_option maxRecDepth 100000 in
set_option maxHeartbeats 3200000 in
theorem l9May_any (r : PRow) (p : Prg) (a : Option Addr) (n c : Nat) (ts : List Tm) (w : World) (h : ProgAt w r p) (hz : codeB p = 0) (hs : standQ p ts = true) (ht : Terms w a n ts) (hc : n ≤ c) :
    Calls Tryz.prog 111 #[progV r, .slice a n c] w fun e w' => e = .returned (.bool (Tr.traps p.arrays (stackOf ts))) ∧ Below w.heap.size w w' := by
  obtain ⟨T0, hT1, hT2, hT3, hT5, hT6, hT7⟩ := standQ_tree hs
  have hlim := code_lim h hz
  have HSZ : Hid (∀ w', Calls Tryz.prog 171 #[progV r] w' fun e w'' => e = .returned (.int .i64 ((2 ^ p.width.toNat : Nat) : Int)) ∧ Below w'.heap.size w' w'') := Lib.hid (fun w' => l3Size_any r p.width.toNat w' hlim.width hlim.small)
  have HARR0 := Lib.hid h.arrays
  have HL := Lib.hid ht.1
  have hn40 : n ≤ 40 := by have := ht.1; omega
  have HNM := Lib.hid hT7
  have HRD := Lib.hid hT6
  have HTS := Lib.hid ht
  obtain ⟨S, HS⟩ : ∃ S : Int, Hid (((2 ^ p.width.toNat : Nat) : Int) = S) := ⟨_, rfl⟩
  rw [HS.out] at HSZ
  obtain ⟨R, HR⟩ : ∃ R, Hid (Tr.traps p.arrays (stackOf ts) = R) := ⟨_, rfl⟩
  rw [HR.out]
  clear hT1 hT2 hT3 hT5 hT6 hT7 hs hz hlim ht
  obtain ⟨wd, ⟨a1, n1, c1⟩, ⟨a2, n2, c2⟩, tp, ⟨a3, n3, c3⟩, ⟨a4, n4, c4⟩, rows⟩ := r
  simp only [] at HARR0
  clear h
  show Calls Tryz.prog 111 #[.agg #[.int .i64 wd, .slice a1 n1 c1, .slice a2 n2 c2, .int .i64 tp, .slice a3 n3 c3, .slice a4 n4 c4], .slice a n c] w _
  obtain ⟨wa, HW⟩ : ∃ wa, Hid (wa = w.alloc (.cells #[.int .i64 wd, .slice a1 n1 c1, .slice a2 n2 c2, .int .i64 tp, .slice a3 n3 c3, .slice a4 n4 c4] 28)) := ⟨_, rfl⟩
  have B : Blk wa w.heap.size 28 [.int .i64 wd, .slice a1 n1 c1, .slice a2 n2 c2, .int .i64 tp, .slice a3 n3 c3, .slice a4 n4 c4] := by rw [HW.out]; exact Blk.new w _ _
  have HB : Below w.heap.size w wa := by rw [HW.out]; exact (Below.refl _ _).alloc (Nat.le_refl _) _
  have HBB := Lib.hid B
  have HBF := Lib.hid HB
  clear B HB
  go_enter Tryz.func111, Tryz.ntmps111
  go_wp2
  rw [← HW.out]
  go_loopw [5] (fun i wr => ∃ k : Nat, k ≤ n ∧ i = .int .i64 (k : Int) ∧ Hid (Tr.traps p.arrays (stackOf (ts.take k)) = false) ∧ Below wa.heap.size wa wr) (fun i _ => n - (intOf i).toNat)
  case atStart => exact ⟨0, Nat.zero_le _, rfl, Lib.hid rfl, Below.refl _ _⟩
  case round =>
    obtain ⟨k, hk, rfl, hno, hbel⟩ := hrel
    have HWR := Lib.hid (HBF.out.trans (hbel.mono HBF.out.size))
    have HBR := Lib.hid (HBB.out.below hbel HBB.out.lt)
    have HBE := Lib.hid hbel
    clear hbel
    by_cases hlt : k < n
    · obtain ⟨pre, kids, hts, hok, hlen, htr⟩ := top_at HRD.out (i := k) (by have := HL.out; omega)
      have hTer := HTS.out.below (Nat.le_refl _) HWR.out
      obtain ⟨b, o, x, y, rfl, hb, hz, hin1, hin2, hc1, hc2⟩ := hTer.at_ (k := k) hlt
      have HNX : Hid (nameOk (2 ^ p.width.toNat) (p.lows.length + p.secrets.length + p.temps.toNat) p.arrays.length (x, y) = true) := Lib.hid (by rw [← hz.out]; exact HNM.out _ (tmAt_mem (by have := HL.out; omega)))
      rw [hz.out] at hts hok hlen htr
      simp only [] at hts hok hlen htr
      have HTR := Lib.hid (htr p.arrays)
      rw [hno.out, Bool.false_or] at HTR
      have HOK := Lib.hid hok
      obtain ⟨L, HL0⟩ : ∃ L, Hid (pre.length = L) := ⟨_, rfl⟩
      obtain ⟨K, HK0⟩ : ∃ K, Hid ((Tr.node x y kids).flat.length = K) := ⟨_, rfl⟩
      have hK1 : 1 ≤ K := by rw [← HK0.out]; exact flat_pos _
      rw [HL0.out, HK0.out] at hlen
      have HSC : Hid (∀ at_ : Int, at_ = (k : Int) → scan ts (at_.toNat + 1) 1 = L) := Lib.hid (fun at_ e => by
        have := scan_flat (Tr.node x y kids) pre (ts.drop (k + 1)) 1 (by omega) HOK.out
        rw [← hts, if_pos rfl, HL0.out, HK0.out] at this
        rw [show at_.toNat + 1 = L + K by omega]
        exact this)
      have HMEM : Hid (∀ t ∈ (Tr.node x y kids).flat, nameOk (2 ^ p.width.toNat) (p.lows.length + p.secrets.length + p.temps.toNat) p.arrays.length t = true) := Lib.hid (fun t hm => HNM.out t (by rw [hts]; exact List.mem_append_right _ (List.mem_append_left _ hm)))
      have hpart := hTer.part hts
      rw [HL0.out, HK0.out] at hpart
      have HPL : Hid (partsL (Tr.node x y kids).flat = kids.map Tr.flat) := Lib.hid (partsL_yes ((expB_iff _).2 ⟨by rw [HK0.out]; omega, by simpa using runD_flat _ 0 (by omega) hok⟩) (stackOf_flat _ hok))
      clear hts hok htr hz
      go_wp2_with fail
      refine (l2First_any _ _ _ ts _ hTer _ (by omega) (by omega) L (HSC.out _ (by omega))).mono ?_
      rintro e w3 ⟨rfl, hb3⟩
      have hpart3 := hpart.below (Nat.le_refl _) hb3
      have d1 : w3.cell? ⟨b, o + k * 2, none⟩ = some (.int .i64 x) := (hb3.cell hb).trans hc1
      have d2 : w3.cell? ⟨b, o + k * 2 + 1, none⟩ = some (.int .i64 y) := (hb3.cell hb).trans hc2
      have hbw3 : b < w3.heap.size := Nat.lt_of_lt_of_le hb hb3.size
      have HW3 := Lib.hid (HWR.out.trans (hb3.mono HWR.out.size))
      have HB3 := Lib.hid (HBR.out.below hb3 HBR.out.lt)
      have HBE3 := Lib.hid (HBE.out.trans (hb3.mono HBE.out.size))
      clear hTer hpart hb3 hc1 hc2
      go_wp2_with fail
      rw [show k + 1 - L = K by omega]
      refine (specPartsOf_any _ _ _ _ _ hpart3 (by omega)).mono ?_
      rintro e w4 ⟨pa, pn, pc, rs, rfl, hSS, hb4⟩
      rw [HPL.out] at hSS
      have HB4 := Lib.hid (HBE3.out.trans (hb4.mono HBE3.out.size))
      have HW4 := Lib.hid (HW3.out.trans (hb4.mono HW3.out.size))
      have HB4B := Lib.hid (HB3.out.below hb4 HB3.out.lt)
      have e1 := (hb4.cell hbw3).trans d1
      have e2 := (hb4.cell hbw3).trans d2
      have hbw4 : b < w4.heap.size := Nat.lt_of_lt_of_le hbw3 hb4.size
      clear d1 d2 hb4 hpart3
      have d1 := e1
      have d2 := e2
      clear e1 e2
      by_cases h2 : x = 2
      · subst h2
        have hkl : kids.length = 1 := by
          have h := HOK.out
          simp only [Tr.okT] at h
          have h3 := h.2.1
          have h4 : takesI 2 = 1 := rfl
          omega
        have hpn : pn = 1 := by have := hSS.2.2.1; rw [List.length_map] at this; omega
        subst hpn
        obtain ⟨j, rfl⟩ : ∃ j : Nat, y = (j : Int) := by
          have h := HOK.out
          simp only [Tr.okT] at h
          obtain ⟨_, h3, _, _⟩ := (tOkB_iff _).1 h.1
          simp only [] at h3
          exact ⟨y.toNat, by omega⟩
        have hj : j < n3 := by
          have h3 := HNX.out
          have h4 := HARR0.out.1
          simp only [nameOk] at h3
          rw [if_neg (by decide), if_neg (by decide), if_pos trivial, decide_eq_true_eq] at h3
          omega
        obtain ⟨bA, oA, z, e3, hbA, HZ, hz64, hcA⟩ := (HARR0.out.below HW4.out).at_ hj
        subst e3
        obtain ⟨kb0, ko0, ka0, km0, kc0, e0, hkb0, hks0, hkc0, hkT0⟩ := hSS.reads.at_ (k := 0) (by omega)
        rw [tsAt_mapF kids 0 (by omega)] at hkT0
        subst e0
        have k0 := lat_cell hkb0 hkc0
        rw [Nat.add_zero] at k0
        have hkok : (kids.getD 0 default).okT := by
          have h := HOK.out
          simp only [Tr.okT] at h
          exact oks_getD h.2.2 (by omega)
        obtain ⟨v, HV⟩ : ∃ v, Hid (knownB (kids.getD 0 default).flat z false = v) := ⟨_, rfl⟩
        have HHV : Hid (headT p.arrays 2 (j : Int) kids = !v) := Lib.hid (by
          have e1 : p.arrays.getD (j : Int).toNat 0 = z := by rw [HZ.out]; simp
          rw [headT, e1, known_cell _ hkok, HV.out]
          simp)
        have HC : Hid (∀ q : Lat w4, Calls Tryz.prog 112 #[.slice ka0 km0 kc0, .int .i64 z, .bool false] q.wd fun e w' => e = .returned (.bool v) ∧ Below q.wd.heap.size q.wd w') := Lib.hid (fun q => by rw [← HV.out]; exact l9Known_any _ _ _ _ _ _ q.wd (hkT0.below (Nat.le_refl _) q.ok))
        have g4 := lat_cell HB4B.out.lt (HB4B.out.cell (j := 4) rfl)
        have f2 := lat_cell hbw4 d2
        have zA := lat_cell hbA hcA
        clear hSS hkT0 hkc0 hkok hz64 hcA
        cases v
        · have HHD : Hid (headT p.arrays 2 (j : Int) kids = true) := Lib.hid (by rw [HHV.out]; rfl)
          go_wp2
          refine wp_region_lat (by kernel_rfl) (by kernel_rfl) ?_
          repeat (go_big_quiet_step ((go_at_call 112; exact lat_calls (HC.out _))))
          refine wpQuiet_nil ?_
          intro _ hw'
          obtain ⟨⟨wq, hwq⟩, hw''⟩ := hw'
          subst hw''
          have hbf := HB4.out.trans (hwq.mono HB4.out.size)
          clear hwq k0 g4 f2 zA HC
          have HT : Hid (R = true) := Lib.hid (by rw [← HR.out]; exact traps_stay HRD.out p.arrays (i := k + 1) (by have := HL.out; omega) (by rw [HTR.out, HHD.out]))
          have HF := Lib.hid (HBF.out.trans (hbf.mono HBF.out.size))
          clear hbf
          go_wp2
          go_ret
          exact ⟨by rw [HT.out]; rfl, HF.out⟩
        · have HHD : Hid (headT p.arrays 2 (j : Int) kids = false) := Lib.hid (by rw [HHV.out]; rfl)
          go_wp2
          refine wp_region_lat (by kernel_rfl) (by kernel_rfl) ?_
          repeat (go_big_quiet_step ((go_at_call 112; exact lat_calls (HC.out _))))
          refine wpQuiet_nil ?_
          intro _ hw'
          obtain ⟨⟨wq, hwq⟩, hw''⟩ := hw'
          subst hw''
          have hbf := HB4.out.trans (hwq.mono HB4.out.size)
          clear hwq k0 g4 f2 zA HC
          have HS2 : Hid (Tr.traps p.arrays (stackOf (ts.take (k + 1))) = false) := Lib.hid (by rw [HTR.out, HHD.out])
          go_wp2
          go_roundw
          case rel => exact ⟨k + 1, by omega, by go_num, HS2, hbf⟩
          case measure => simp [intOf]; omega
      by_cases h8 : x = 8
      · subst h8
        have hkl : kids.length = 2 := by
          have h := HOK.out
          simp only [Tr.okT] at h
          have h3 := h.2.1
          have h4 : takesI 8 = 2 := rfl
          omega
        have hpn : pn = 2 := by have := hSS.2.2.1; rw [List.length_map] at this; omega
        subst hpn
        obtain ⟨kb0, ko0, ka0, km0, kc0, e0, hkb0, hks0, hkc0, hkT0⟩ := hSS.reads.at_ (k := 1) (by omega)
        rw [tsAt_mapF kids 1 (by omega)] at hkT0
        subst e0
        have k0 := lat_cell hkb0 hkc0
        have hkok : (kids.getD 1 default).okT := by
          have h := HOK.out
          simp only [Tr.okT] at h
          exact oks_getD h.2.2 (by omega)
        have hkS : ∀ m ks, kids.getD 1 default = .node 0 m ks → m < S := fun m ks e => by
          have h3 := HMEM.out (0, m) (by
            simp only [Tr.flat]
            refine List.mem_append_left _ (mem_flats_getD (i := 1) ?_ (by omega))
            rw [e]; simp [Tr.flat])
          simp only [nameOk] at h3
          rw [if_pos trivial, decide_eq_true_eq] at h3
          rw [← HS.out]
          exact h3
        obtain ⟨v, HV⟩ : ∃ v, Hid (knownB (kids.getD 1 default).flat S true = v) := ⟨_, rfl⟩
        have HHV : Hid (headT p.arrays 8 y kids = !v) := Lib.hid (by
          rw [headT, known_div _ hkok S hkS, HV.out]
          simp)
        have HC : Hid (∀ q : Lat w4, Calls Tryz.prog 112 #[.slice ka0 km0 kc0, .int .i64 S, .bool true] q.wd fun e w' => e = .returned (.bool v) ∧ Below q.wd.heap.size q.wd w') := Lib.hid (fun q => by rw [← HV.out]; exact l9Known_any _ _ _ _ _ _ q.wd (hkT0.below (Nat.le_refl _) q.ok))
        have HCS : Hid (∀ q : Lat w4, Calls Tryz.prog 171 #[.agg #[.int .i64 wd, .slice a1 n1 c1, .slice a2 n2 c2, .int .i64 tp, .slice a3 n3 c3, .slice a4 n4 c4]] q.wd fun e w' => e = .returned (.int .i64 S) ∧ Below q.wd.heap.size q.wd w') := Lib.hid (fun q => HSZ.out q.wd)
        have g0 := lat_cell HB4B.out.lt (HB4B.out.cell (j := 0) rfl)
        have g1 := lat_cell HB4B.out.lt (HB4B.out.cell (j := 1) rfl)
        have g2 := lat_cell HB4B.out.lt (HB4B.out.cell (j := 2) rfl)
        have g3 := lat_cell HB4B.out.lt (HB4B.out.cell (j := 3) rfl)
        have g4 := lat_cell HB4B.out.lt (HB4B.out.cell (j := 4) rfl)
        have g5 := lat_cell HB4B.out.lt (HB4B.out.cell (j := 5) rfl)
        clear hSS hkT0 hkc0 hkok hkS
        cases v
        · have HHD : Hid (headT p.arrays 8 y kids = true) := Lib.hid (by rw [HHV.out]; rfl)
          go_wp2
          refine wp_region_lat (by kernel_rfl) (by kernel_rfl) ?_
          repeat (go_big_quiet_step ((first | (go_at_call 171; exact lat_calls (HCS.out _)) | (go_at_call 112; exact lat_calls (HC.out _)))))
          refine wpQuiet_nil ?_
          intro _ hw'
          obtain ⟨⟨wq, hwq⟩, hw''⟩ := hw'
          subst hw''
          have hbf := HB4.out.trans (hwq.mono HB4.out.size)
          clear hwq k0 g0 g1 g2 g3 g4 g5 HC HCS
          have HT : Hid (R = true) := Lib.hid (by rw [← HR.out]; exact traps_stay HRD.out p.arrays (i := k + 1) (by have := HL.out; omega) (by rw [HTR.out, HHD.out]))
          have HF := Lib.hid (HBF.out.trans (hbf.mono HBF.out.size))
          clear hbf
          go_wp2
          go_ret
          exact ⟨by rw [HT.out]; rfl, HF.out⟩
        · have HHD : Hid (headT p.arrays 8 y kids = false) := Lib.hid (by rw [HHV.out]; rfl)
          go_wp2
          refine wp_region_lat (by kernel_rfl) (by kernel_rfl) ?_
          repeat (go_big_quiet_step ((first | (go_at_call 171; exact lat_calls (HCS.out _)) | (go_at_call 112; exact lat_calls (HC.out _)))))
          refine wpQuiet_nil ?_
          intro _ hw'
          obtain ⟨⟨wq, hwq⟩, hw''⟩ := hw'
          subst hw''
          have hbf := HB4.out.trans (hwq.mono HB4.out.size)
          clear hwq k0 g0 g1 g2 g3 g4 g5 HC HCS
          have HS2 : Hid (Tr.traps p.arrays (stackOf (ts.take (k + 1))) = false) := Lib.hid (by rw [HTR.out, HHD.out])
          go_wp2
          go_roundw
          case rel => exact ⟨k + 1, by omega, by go_num, HS2, hbf⟩
          case measure => simp [intOf]; omega
      by_cases h9 : x = 9
      · subst h9
        have hkl : kids.length = 2 := by
          have h := HOK.out
          simp only [Tr.okT] at h
          have h3 := h.2.1
          have h4 : takesI 9 = 2 := rfl
          omega
        have hpn : pn = 2 := by have := hSS.2.2.1; rw [List.length_map] at this; omega
        subst hpn
        obtain ⟨kb0, ko0, ka0, km0, kc0, e0, hkb0, hks0, hkc0, hkT0⟩ := hSS.reads.at_ (k := 1) (by omega)
        rw [tsAt_mapF kids 1 (by omega)] at hkT0
        subst e0
        have k0 := lat_cell hkb0 hkc0
        have hkok : (kids.getD 1 default).okT := by
          have h := HOK.out
          simp only [Tr.okT] at h
          exact oks_getD h.2.2 (by omega)
        have hkS : ∀ m ks, kids.getD 1 default = .node 0 m ks → m < S := fun m ks e => by
          have h3 := HMEM.out (0, m) (by
            simp only [Tr.flat]
            refine List.mem_append_left _ (mem_flats_getD (i := 1) ?_ (by omega))
            rw [e]; simp [Tr.flat])
          simp only [nameOk] at h3
          rw [if_pos trivial, decide_eq_true_eq] at h3
          rw [← HS.out]
          exact h3
        obtain ⟨v, HV⟩ : ∃ v, Hid (knownB (kids.getD 1 default).flat S true = v) := ⟨_, rfl⟩
        have HHV : Hid (headT p.arrays 9 y kids = !v) := Lib.hid (by
          rw [headT, known_div _ hkok S hkS, HV.out]
          simp)
        have HC : Hid (∀ q : Lat w4, Calls Tryz.prog 112 #[.slice ka0 km0 kc0, .int .i64 S, .bool true] q.wd fun e w' => e = .returned (.bool v) ∧ Below q.wd.heap.size q.wd w') := Lib.hid (fun q => by rw [← HV.out]; exact l9Known_any _ _ _ _ _ _ q.wd (hkT0.below (Nat.le_refl _) q.ok))
        have HCS : Hid (∀ q : Lat w4, Calls Tryz.prog 171 #[.agg #[.int .i64 wd, .slice a1 n1 c1, .slice a2 n2 c2, .int .i64 tp, .slice a3 n3 c3, .slice a4 n4 c4]] q.wd fun e w' => e = .returned (.int .i64 S) ∧ Below q.wd.heap.size q.wd w') := Lib.hid (fun q => HSZ.out q.wd)
        have g0 := lat_cell HB4B.out.lt (HB4B.out.cell (j := 0) rfl)
        have g1 := lat_cell HB4B.out.lt (HB4B.out.cell (j := 1) rfl)
        have g2 := lat_cell HB4B.out.lt (HB4B.out.cell (j := 2) rfl)
        have g3 := lat_cell HB4B.out.lt (HB4B.out.cell (j := 3) rfl)
        have g4 := lat_cell HB4B.out.lt (HB4B.out.cell (j := 4) rfl)
        have g5 := lat_cell HB4B.out.lt (HB4B.out.cell (j := 5) rfl)
        clear hSS hkT0 hkc0 hkok hkS
        cases v
        · have HHD : Hid (headT p.arrays 9 y kids = true) := Lib.hid (by rw [HHV.out]; rfl)
          go_wp2
          refine wp_region_lat (by kernel_rfl) (by kernel_rfl) ?_
          repeat (go_big_quiet_step ((first | (go_at_call 171; exact lat_calls (HCS.out _)) | (go_at_call 112; exact lat_calls (HC.out _)))))
          refine wpQuiet_nil ?_
          intro _ hw'
          obtain ⟨⟨wq, hwq⟩, hw''⟩ := hw'
          subst hw''
          have hbf := HB4.out.trans (hwq.mono HB4.out.size)
          clear hwq k0 g0 g1 g2 g3 g4 g5 HC HCS
          have HT : Hid (R = true) := Lib.hid (by rw [← HR.out]; exact traps_stay HRD.out p.arrays (i := k + 1) (by have := HL.out; omega) (by rw [HTR.out, HHD.out]))
          have HF := Lib.hid (HBF.out.trans (hbf.mono HBF.out.size))
          clear hbf
          go_wp2
          go_ret
          exact ⟨by rw [HT.out]; rfl, HF.out⟩
        · have HHD : Hid (headT p.arrays 9 y kids = false) := Lib.hid (by rw [HHV.out]; rfl)
          go_wp2
          refine wp_region_lat (by kernel_rfl) (by kernel_rfl) ?_
          repeat (go_big_quiet_step ((first | (go_at_call 171; exact lat_calls (HCS.out _)) | (go_at_call 112; exact lat_calls (HC.out _)))))
          refine wpQuiet_nil ?_
          intro _ hw'
          obtain ⟨⟨wq, hwq⟩, hw''⟩ := hw'
          subst hw''
          have hbf := HB4.out.trans (hwq.mono HB4.out.size)
          clear hwq k0 g0 g1 g2 g3 g4 g5 HC HCS
          have HS2 : Hid (Tr.traps p.arrays (stackOf (ts.take (k + 1))) = false) := Lib.hid (by rw [HTR.out, HHD.out])
          go_wp2
          go_roundw
          case rel => exact ⟨k + 1, by omega, by go_num, HS2, hbf⟩
          case measure => simp [intOf]; omega
      · have HHD : Hid (headT p.arrays x y kids = false) := Lib.hid (by simp [headT, h2, h8, h9])
        have hbf := HB4.out
        clear hSS
        have HS2 : Hid (Tr.traps p.arrays (stackOf (ts.take (k + 1))) = false) := Lib.hid (by rw [HTR.out, HHD.out])
        go_wp2
        go_roundw
        case rel => exact ⟨k + 1, by omega, by go_num, HS2, hbf⟩
        case measure => simp [intOf]; omega
    · obtain rfl : n = k := by omega
      have HT : Hid (R = false) := Lib.hid (by
        have e : ts.take n = ts := List.take_of_length_le (by have := HL.out; omega)
        have := hno.out
        rw [e] at this
        rw [← HR.out, this])
      go_wp2
      go_ret
      exact ⟨by rw [HT.out]; rfl, HWR.out⟩
end Go.Proofs.YtbnpoliogldohaaGreat
