/- The contract of the program's reckonerOf. -/
import Derived.Test.YtmooecbdpfhnlaaT31
import Derived.Deep.RegionWith
namespace Go.Proofs.Ytmooecbdpfhnlaa
open Go.RowKit

set_option maxHeartbeats 1600000 in
theorem reckonerOf_any (r : PRow) (W : Nat) (er : ERow) (plain : Bool) (w : World) (hW : r.width = (W : Int)) (hW8 : W ≤ 8) :
    Calls Try.prog 65 #[progV r, envV er, .bool plain] w fun e w' => e = .returned (reckV (((2 ^ W : Nat) : Int) - 1) er plain) ∧ Below w.heap.size w w' := by
  have HG : Hid (∀ w' : World, Calls Try.prog 115 #[progV r] w' fun e w'' => e = .returned (.int .i64 (((2 ^ W : Nat) : Int) - 1)) ∧ Below w'.heap.size w' w'') := Lib.hid (fun w' => greatestValue_any r W w' hW hW8)
  obtain ⟨S, HS⟩ : ∃ S : Int, Hid (((2 ^ W : Nat) : Int) - 1 = S) := ⟨_, Lib.hid rfl⟩
  simp only [HS.out] at HG ⊢
  clear HS hW hW8
  obtain ⟨wd, ⟨a1, n1, d1⟩, ⟨a2, n2, d2⟩, tp, ⟨a3, n3, d3⟩, ⟨a4, n4, d4⟩, rows⟩ := r
  obtain ⟨⟨b1, m1, e1⟩, ⟨b2, m2, e2⟩, rws⟩ := er
  simp only [progV, slV] at HG
  show Calls Try.prog 65 #[.agg #[.int .i64 wd, .slice a1 n1 d1, .slice a2 n2 d2, .int .i64 tp, .slice a3 n3 d3, .slice a4 n4 d4], .agg #[.slice b1 m1 e1, .slice b2 m2 e2], .bool plain] w _
  obtain ⟨wa, HW⟩ : ∃ wa, Hid (wa = ((w.alloc (.cells #[.int .i64 wd, .slice a1 n1 d1, .slice a2 n2 d2, .int .i64 tp, .slice a3 n3 d3, .slice a4 n4 d4] 28)).alloc (.cells #[.slice b1 m1 e1, .slice b2 m2 e2] 53)).alloc (.cells #[.int .i64 0, .slice none 0 0, .slice none 0 0, .bool false] 104)) := ⟨_, rfl⟩
  have BX : VBox w wa [.int .i64 wd, .slice a1 n1 d1, .slice a2 n2 d2, .int .i64 tp, .slice a3 n3 d3, .slice a4 n4 d4] [.slice b1 m1 e1, .slice b2 m2 e2] := by rw [HW.out]; exact (vbox_new w _ _).below ((Below.refl _ _).alloc (Nat.le_refl _) _)
  have RX : Blk wa (w.heap.size + 1 + 1) 104 [.int .i64 0, .slice none 0 0, .slice none 0 0, .bool false] := by rw [HW.out]; simpa using Blk.new ((w.alloc (.cells #[.int .i64 wd, .slice a1 n1 d1, .slice a2 n2 d2, .int .i64 tp, .slice a3 n3 d3, .slice a4 n4 d4] 28)).alloc (.cells #[.slice b1 m1 e1, .slice b2 m2 e2] 53)) 104 [.int .i64 0, .slice none 0 0, .slice none 0 0, .bool false]
  go_enter Try.func65, Try.ntmps65
  go_wp2_with fail
  rw [← HW.out]
  clear HW
  have t0 := BX.prg.cell (j := 0) rfl
  have t1 := BX.prg.cell (j := 1) rfl
  have t2 := BX.prg.cell (j := 2) rfl
  have t3 := BX.prg.cell (j := 3) rfl
  have t4 := BX.prg.cell (j := 4) rfl
  have t5 := BX.prg.cell (j := 5) rfl
  have s0 := BX.env.cell (j := 0) rfl
  have s1 := BX.env.cell (j := 1) rfl
  have hd : Below wa.heap.size wa wa.drew := ⟨rfl, rfl, rfl, Nat.le_refl _, fun _ _ => rfl⟩
  have HGD := Lib.hid (HG.out wa.drew)
  go_region_with (
    (go_at_call 115; refine HGD.out.mono ?_; rintro e w1 ⟨rfl, hb1⟩; have hb2 := hd.trans (hb1.mono hd.size); have B1 := BX.below hb2; have R1 := RX.below hb2 RX.lt; have u0 := B1.prg.cell (j := 0) rfl; have u1 := B1.prg.cell (j := 1) rfl; have u2 := B1.prg.cell (j := 2) rfl; have u3 := B1.prg.cell (j := 3) rfl; have u4 := B1.prg.cell (j := 4) rfl; have u5 := B1.prg.cell (j := 5) rfl; have x0 := B1.env.cell (j := 0) rfl; have x1 := B1.env.cell (j := 1) rfl; have r0 := R1.cell (j := 0) rfl; have r1 := R1.cell (j := 1) rfl; have r2 := R1.cell (j := 2) rfl; have r3 := R1.cell (j := 3) rfl; have z0 := R1.frozen 0; have z1 := R1.frozen 1; have z2 := R1.frozen 2; have z3 := R1.frozen 3; clear hb1 hb2))
  all_goals
    have HB1 := Lib.hid B1.bel
    clear B1 R1 u0 u1 u2 u3 u4 u5 x0 x1 RX BX
    go_wp2
    refine bodyPost_ret (v := .agg #[.int .i64 S, .slice b1 m1 e1, .slice b2 m2 e2, .bool plain]) (by simp [results, Try.results65, go_sem, r0, r1, r2, r3]) rfl ?_
    exact ⟨rfl, below_set (below_set (below_set (below_set HB1.out (by omega) _) (by omega) _) (by omega) _) (by omega) _⟩
end Go.Proofs.Ytmooecbdpfhnlaa
