/- 'append' at a step of a region that draws its order: Terms, Stmts. -/
import Derived.Test.YtjboghmcmlkpoaaGreatDoorJ16
import Derived.Deep.RegionHeld3
import Derived.Deep.AppendLies
namespace Go.Proofs.YtjboghmcmlkpoaaGreatDoor
open Go.RowKit

theorem wrapI (n : Int) (h0 : 0 ≤ n) (h1 : n ≤ 1048576) : IntKind.i64.wrap n = n := by
  rw [IntKind.wrap_i64]
  omega
/-- 'append(s, x...)', s of the call's own, x some cells at an address: whatever the element type. -/
theorem step_pushG {ops : Array Oper} {o : Oper} {ac : Act} {K : Act → World → Prop} {Q : Exit → Act → World → Prop} {E : Prop} (w : World) (hgd : o.guard = none) (s x : Operand) (t e : TypeId) (z : Value) (size bytes : Nat)
    (ho : o.op = .call { callee := .builtin .append, args := #[s, x], argTypes := #[t, t] }) (ht : Tryz.prog.underlying t = some (.slice e)) (hinf : (Tryz.prog.info? e).map (fun i => (i.zero, i.size, i.bytes)) = some (some z, size, bytes)) (hzs : z.cells.size = size) (hsz : 0 < size)
    (B : Nat) (a : Option Addr) (n c : Nat) (xs : List Value) (hs : ac.eval s = .slice a n c) (hown : w.ownsRow B e size (.slice a n c) n xs)
    (ad : Addr) (m c2 : Nat) (news : List Value) (hx : ac.eval x = .slice (some ad) m c2) (hl : news.length = m * size) (hnews : ∀ j u, news[j]? = some u → w.cell? (ad.add j) = some u) (h1 : ∀ u ∈ news, u.oneCell' = true)
    (hm : 0 < m) (h63 : n + m ≤ maxLen) (hbytes : (n + m) * bytes ≤ 140737488355328) (hB : B ≤ w.heap.size)
    (h : ∀ g c1 w', w'.ownsRow B e size (.slice (some ⟨g, 0, none⟩) (n + m) c1) (n + m) (xs ++ news) → GrowsTo w (.slice a n c) w' (.slice (some ⟨g, 0, none⟩) (n + m) c1) → K (ac.put o.dst (.slice (some ⟨g, 0, none⟩) (n + m) c1)) w') :
    if Region.wanted o (yielded ops ac.tmps) = true then Oper.wp Tryz.prog o ac w K Q else E := by
  obtain ⟨i0, hi, hz0, hz1, hz2⟩ := info_parts hinf
  refine step_append_lies w hgd s x t ho B e i0 z size bytes ht hi hz0 hz1 hz2 hzs hsz (.slice a n c) n xs hs hown ad m c2 news hx hl hnews h1 hm h63 hbytes hB w.heap.size rfl ?_
  intro g cap w' r1 r2 r3 _
  refine h g cap w' r1 ⟨r2, fun g' hg' => ?_⟩
  have : g = g' := by simpa [Value.ownBlock] using hg'
  subst this
  rcases r3 with r3 | r3
  · exact .inl r3
  · exact .inr (by omega)
theorem step_pushT {ops : Array Oper} {o : Oper} {ac : Act} {K : Act → World → Prop} {Q : Exit → Act → World → Prop} {E : Prop} (w : World) (hgd : o.guard = none) (s x : Operand)
    (ho : o.op = .call { callee := .builtin .append, args := #[s, x], argTypes := #[41, 41] })
    (B : Nat) (a : Option Addr) (n c : Nat) (ts : List Tm) (hs : ac.eval s = .slice a n c) (hown : OwnT w B a n c ts)
    (g : Nat) (p q : Int) (hx : ac.eval x = .slice (some ⟨g, 0, none⟩) 1 1) (hc1 : w.cell? ⟨g, 0, none⟩ = some (.int .i64 p)) (hc2 : w.cell? ⟨g, 1, none⟩ = some (.int .i64 q)) (hin : InTm (p, q)) (hn : n < 1048576) (hB : B ≤ w.heap.size)
    (h : ∀ a1 c1 w', OwnT w' B a1 (n + 1) c1 (ts ++ [(p, q)]) → GrowsTo w (.slice a n c) w' (.slice a1 (n + 1) c1) → K (ac.put o.dst (.slice a1 (n + 1) c1)) w') :
    if Region.wanted o (yielded ops ac.tmps) = true then Oper.wp Tryz.prog o ac w K Q else E := by
  refine step_pushG w hgd s x 41 105 (.agg #[.int .i64 0, .int .i64 0]) 2 16 ho Tryz.underlying41 info_term rfl (by omega) B a n c (flatV ts) hs hown.1 ⟨g, 0, none⟩ 1 1 [.int .i64 p, .int .i64 q] hx rfl ?_ ?_ (by omega) ?_ ?_ hB ?_
  · intro j u hj
    match j, hj with
    | 0, hj => simp at hj; subst hj; simpa [Addr.add] using hc1
    | 1, hj => simp at hj; subst hj; simpa [Addr.add] using hc2
  · intro u hu; simp at hu; rcases hu with rfl | rfl <;> rfl
  · unfold maxLen; omega
  · omega
  · intro a1 c1 w' r1 r2
    refine h _ c1 w' ⟨by rw [flatV_append]; exact r1, by omega, fun t ht => ?_⟩ r2
    rcases List.mem_append.1 ht with ht | ht
    · exact hown.2.2 t ht
    · rw [List.mem_singleton] at ht; subst ht; exact hin
theorem step_pushS {ops : Array Oper} {o : Oper} {ac : Act} {K : Act → World → Prop} {Q : Exit → Act → World → Prop} {E : Prop} (w : World) (hgd : o.guard = none) (s x : Operand)
    (ho : o.op = .call { callee := .builtin .append, args := #[s, x], argTypes := #[26, 26] })
    (B : Nat) (a : Option Addr) (n c : Nat) (hs : ac.eval s = .slice a n c) (hown : AnyS w B a n c)
    (ad : Addr) (m c2 : Nat) (hx : ac.eval x = .slice (some ad) m c2) (hnews : News w B ad m) (hm : 0 < m) (hn : n + m ≤ 1048576) (hB : B ≤ w.heap.size)
    (h : ∀ a1 c1 w', AnyS w' B a1 (n + m) c1 → GrowsTo w (.slice a n c) w' (.slice a1 (n + m) c1) → K (ac.put o.dst (.slice a1 (n + m) c1)) w') :
    if Region.wanted o (yielded ops ac.tmps) = true then Oper.wp Tryz.prog o ac w K Q else E := by
  obtain ⟨rs, ss, hown⟩ := hown
  obtain ⟨us, vs, hu, hv, hc, hst⟩ := hnews
  refine step_pushG w hgd s x 26 76 (.agg #[.int .i64 0, .int .i64 0, .slice none 0 0, .slice none 0 0]) 4 64 ho Tryz.underlying26 info_stmt rfl (by omega) B a n c (flatS rs) hs hown.1 ad m c2 (flatS us) hx (by rw [flatS_len, hu]) hc (flatS_one us) hm (by unfold maxLen; omega) (by omega) hB ?_
  intro g c1 w' r1 r2
  refine h _ c1 w' ⟨rs ++ us, ss ++ vs, by rw [flatS_append]; exact r1, hn, by rw [List.length_append, hown.2.2.1, hv], fun i hi => ?_⟩ r2
  have hlr := hown.len
  have hls := hown.2.2.1
  rcases Nat.lt_or_ge i n with hlt | hge
  · rw [srAt_append_left (by omega), stAt_append_left (by omega)]
    exact (hown.2.2.2 i hlt).rowGrew hown.1 r2.1
  · rw [srAt_append_right (by omega), stAt_append_right (by omega), hlr, hls]
    exact (hst (i - n) (by omega)).rowGrew hown.1 r2.1
end Go.Proofs.YtjboghmcmlkpoaaGreatDoor
