/-
  VectorOrder, walked over what the laws take of the program.
-/
import Derived.Test.YtkflngdahnpmbaaVeJoinW
import Derived.Test.YtkflngdahnpmbaaGIMap
namespace Go.Proofs.Ytkflngdahnpmbaa.Ve
set_option linter.unusedVariables false
set_option linter.unusedSimpArgs false
open Go.RowKit Mem Gt
open Jump (Gave equalZ_c)

set_option maxRecDepth 100000 in
set_option maxHeartbeats 4000000 in
theorem order_bad (hW : WrongSpec) (hC : CompareSpec) (hJ : JoinSpec) (hT : TickSpec) (hN : NewestSpec) (A B C : Option Addr) (a b c : Ve) (n m p ca cb cc : Nat) (W : World) (h1 : IsV W (.slice A n ca) a) (h2 : IsV W (.slice B m cb) b) (h3 : IsV W (.slice C p cc) c) (he : wrongE [a, b, c] ≠ 0) :
    Calls Try.prog 5 #[.slice A n ca, .slice B m cb, .slice C p cc] W (Law.Yes W) := by
  obtain ⟨e, hee⟩ : ∃ e, wrongE [a, b, c] = e := ⟨_, rfl⟩
  rw [hee] at he
  have AL := Lib.hid (alive_c hC hJ hT hN W)
  have P := Lib.hid (fun w1 (hb : Below W.heap.size W w1) => hW (some ⟨w1.heap.size, 0, none⟩) [a, b, c] 3 3 (w1.alloc (.cells #[.slice A n ca, .slice B m cb, .slice C p cc] 22)) e rfl (by omega) (lit3 w1 (h1.below hb) (h2.below hb) (h3.below hb)) hee)
  clear h1 h2 h3 hee
  go_enter Try.func5, Try.ntmps5
  go_wp2_with fail
  refine AL.out.mono ?_
  rintro u w1 ⟨rfl, hb⟩
  have B1 := Lib.hid hb
  have P1 := Lib.hid (P.out w1 hb)
  clear hb AL P
  go_wp2_with fail
  refine P1.out.mono ?_
  rintro u w2 ⟨rfl, hb⟩
  have B2 := Lib.hid (B1.out.trans (((low_lit w1 (.cells #[.slice A n ca, .slice B m cb, .slice C p cc] 22)).trans (hb.mono (by simp))).mono B1.out.size))
  clear hb P1
  go_wp2
  go_ret
  exact ⟨rfl, B2.out⟩
set_option maxRecDepth 100000 in
set_option maxHeartbeats 8000000 in
theorem order_good (hW : WrongSpec) (hC : CompareSpec) (hJ : JoinSpec) (hT : TickSpec) (hN : NewestSpec) (A B C : Option Addr) (a b c : Ve) (q ca cb cc : Nat) (W : World) (fa : Fine q a) (fb : Fine q b) (fc : Fine q c) (ka : q ≤ ca ∧ ca ≤ 9223372036854775807) (kb : q ≤ cb ∧ cb ≤ 9223372036854775807) (kc : q ≤ cc ∧ cc ≤ 9223372036854775807)
    (ra : Reads W A (a.map (Value.int .i64))) (rb : Reads W B (b.map (Value.int .i64))) (rc : Reads W C (c.map (Value.int .i64))) :
    Calls Try.prog 5 #[.slice A q ca, .slice B q cb, .slice C q cc] W (Law.Yes W) := by
  have hq : q ≤ 16 := fa.2.1
  have AL := Lib.hid (alive_c hC hJ hT hN W)
  have P := Lib.hid (fun w1 (hb : Below W.heap.size W w1) => hW (some ⟨w1.heap.size, 0, none⟩) [a, b, c] 3 3 (w1.alloc (.cells #[.slice A q ca, .slice B q cb, .slice C q cc] 22)) 0 rfl (by omega) (lit3 w1 (isv_of fa.1 ka (by omega) (ra.below hb)) (isv_of fb.1 kb (by omega) (rb.below hb)) (isv_of fc.1 kc (by omega) (rc.below hb))) (wrongE_zero.2 ⟨q, fun v hv => by
    simp at hv; rcases hv with rfl | rfl | rfl
    · exact fa
    · exact fb
    · exact fc⟩))
  obtain ⟨x, hx⟩ : ∃ x, cmp a b = x := ⟨_, rfl⟩
  obtain ⟨y, hy⟩ : ∃ x, cmp b c = x := ⟨_, rfl⟩
  obtain ⟨z, hz⟩ : ∃ x, cmp a c = x := ⟨_, rfl⟩
  have hab : a.length = b.length := fa.1.trans fb.1.symm
  have hbc : b.length = c.length := fb.1.trans fc.1.symm
  have XV := Lib.hid (show x = 1 ∨ x = 2 ∨ x = 3 ∨ x = 4 by rw [← hx]; exact cmp_vals a b)
  have YV := Lib.hid (show y = 1 ∨ y = 2 ∨ y = 3 ∨ y = 4 by rw [← hy]; exact cmp_vals b c)
  have FL := Lib.hid (show cmp b a = if x = 2 then 3 else if x = 3 then 2 else x by rw [← hx]; exact cmp_flip hab)
  have LS := Lib.hid (show x = 2 → y = 2 → z = 2 from fun h1 h2 => by rw [← hz]; exact cmp_less hab hbc (hx.trans h1) (hy.trans h2))
  have SM := Lib.hid (show x = 1 → z = y from fun h1 => by
    have e := (cmp_one hab).1 (hx.trans h1)
    rw [← hz, ← hy, e])
  obtain ⟨t, ht⟩ : ∃ x, cmp b a = x := ⟨_, rfl⟩
  rw [ht] at FL
  have C1 := Lib.hid (fun V (hb : Below W.heap.size W V) => cmp_at hC fa fb ka kb (ra.below hb) (rb.below hb) hx)
  have C2 := Lib.hid (fun V (hb : Below W.heap.size W V) => cmp_at hC fb fc kb kc (rb.below hb) (rc.below hb) hy)
  have C3 := Lib.hid (fun V (hb : Below W.heap.size W V) => cmp_at hC fa fc ka kc (ra.below hb) (rc.below hb) hz)
  have C4 := Lib.hid (fun V (hb : Below W.heap.size W V) => cmp_at hC fb fa kb ka (rb.below hb) (ra.below hb) ht)
  clear fa fb fc ra rb rc hC hJ hW hT hN hx hy hz ht hab hbc
  have hmm := @run_makeMap Try.prog
  go_enter Try.func5, Try.ntmps5
  go_wp2_with fail
  refine AL.out.mono ?_
  rintro u w1 ⟨rfl, hb⟩
  have B1 := Lib.hid hb
  have P1 := Lib.hid (P.out w1 hb)
  clear hb AL P
  go_wp2_with fail
  refine P1.out.mono ?_
  rintro u w2 ⟨rfl, hb⟩
  have B2 := Lib.hid (B1.out.trans (((low_lit w1 (.cells #[.slice A q ca, .slice B q cb, .slice C q cc] 22)).trans (hb.mono (by simp))).mono B1.out.size))
  clear hb P1
  have D1 := Lib.hid (C1.out w2 B2.out)
  go_wp2_with fail
  refine D1.out.mono ?_
  rintro u w3 ⟨rfl, hb⟩
  have B3 := Lib.hid (B2.out.trans (hb.mono B2.out.size))
  clear hb C1 D1
  have D2 := Lib.hid (C2.out w3 B3.out)
  go_wp2_with fail
  refine D2.out.mono ?_
  rintro u w4 ⟨rfl, hb⟩
  have B4 := Lib.hid (B3.out.trans (hb.mono B3.out.size))
  clear hb C2 D2
  have D3 := Lib.hid (C3.out w4 B4.out)
  go_wp2_with fail
  refine D3.out.mono ?_
  rintro u w5 ⟨rfl, hb⟩
  have B5 := Lib.hid (B4.out.trans (hb.mono B4.out.size))
  clear hb C3 D3
  have D4 := Lib.hid (C4.out w5 B5.out)
  go_wp2_with fail
  refine D4.out.mono ?_
  rintro u w6 ⟨rfl, hb⟩
  have B6 := Lib.hid (B5.out.trans (hb.mono B5.out.size))
  clear hb C4 D4
  obtain ⟨V1, r1, g1, q1⟩ := (IMap.made w6).upd (t := 42) Try.underlying42 (by simp) 1 (by decide) 1 (by decide)
  obtain ⟨V2, r2, g2, q2⟩ := g1.upd (t := 42) Try.underlying42 (by decide) 2 (by decide) 3 (by decide)
  obtain ⟨V3, r3, g3, q3⟩ := g2.upd (t := 42) Try.underlying42 (by decide) 3 (by decide) 2 (by decide)
  obtain ⟨V4, r4, g4, q4⟩ := g3.upd (t := 42) Try.underlying42 (by decide) 4 (by decide) 4 (by decide)
  have G1 := B6.out.trans ((low_lit w6 (.map #[] 0)).mono B6.out.size)
  have G2 := G1.grown q1 G1.size (fun k hk => by injection hk with hk; subst hk; exact B6.out.size)
  have G3 := G2.grown q2 G2.size (fun k hk => by injection hk with hk; subst hk; exact B6.out.size)
  have G4 := G3.grown q3 G3.size (fun k hk => by injection hk with hk; subst hk; exact B6.out.size)
  have G5 := Lib.hid (G4.grown q4 G4.size (fun k hk => by injection hk with hk; subst hk; exact B6.out.size))
  have LK := Lib.hid (show ∀ s r : Int, (s = 1 ∧ r = 1 ∨ s = 2 ∧ r = 3 ∨ s = 3 ∧ r = 2 ∨ s = 4 ∧ r = 4) → (Instr.lookup 42 (.map (some w6.heap.size)) (.int .i64 s) false).run Try.prog V4 = .ok (.int .i64 r) V4 from fun s r h => by
    have hs : (Lit.int .i64 s).wf = true := by rcases h with ⟨rfl, _⟩ | ⟨rfl, _⟩ | ⟨rfl, _⟩ | ⟨rfl, _⟩ <;> decide
    have e := g4.look (t := 42) Try.underlying42 s hs
    rw [e]
    congr 2
    rcases h with ⟨rfl, rfl⟩ | ⟨rfl, rfl⟩ | ⟨rfl, rfl⟩ | ⟨rfl, rfl⟩ <;> rfl)
  clear g1 g2 g3 g4 q1 q2 q3 q4 G1 G2 G3 G4 B1 B2 B3 B4 B5 B6
  have FX := FL.out
  have LX := LS.out
  have SX := SM.out
  have YX := YV.out
  clear FL LS SM
  rcases XV.out with h | h | h | h <;> subst h <;> simp at FX LX SX <;> subst FX
  · have r5 := LK.out 1 1 (by decide)
    subst SX
    go_wp2
    go_ret
    exact ⟨by simp, G5.out⟩
  · have r5 := LK.out 2 3 (by decide)
    by_cases hy : y = 2
    · have hz := LX hy
      subst hy hz
      go_wp2
      go_ret
      exact ⟨rfl, G5.out⟩
    · have j1 : (y == 2) = false := by simp [hy]
      go_wp2
      go_ret
      exact ⟨by simp [hy], G5.out⟩
  · have r5 := LK.out 3 2 (by decide)
    go_wp2
    go_ret
    exact ⟨rfl, G5.out⟩
  · have r5 := LK.out 4 4 (by decide)
    go_wp2
    go_ret
    exact ⟨rfl, G5.out⟩
theorem order_w (hW : WrongSpec) (hC : CompareSpec) (hJ : JoinSpec) (hT : TickSpec) (hN : NewestSpec) (A B C : Option Addr) (a b c : Ve) (n m p ca cb cc : Nat) (W : World) (ha : a.length = n) (hb : b.length = m) (hc : c.length = p) (ka : n ≤ ca ∧ ca ≤ 9223372036854775807) (kb : m ≤ cb ∧ cb ≤ 9223372036854775807) (kc : p ≤ cc ∧ cc ≤ 9223372036854775807)
    (h1 : n ≤ 140737488355328) (h2 : m ≤ 140737488355328) (h3 : p ≤ 140737488355328) (ra : Reads W A (a.map (Value.int .i64))) (rb : Reads W B (b.map (Value.int .i64))) (rc : Reads W C (c.map (Value.int .i64))) :
    Calls Try.prog 5 #[.slice A n ca, .slice B m cb, .slice C p cc] W (Law.Yes W) := by
  by_cases he : wrongE [a, b, c] = 0
  · obtain ⟨q, hq⟩ := wrongE_zero.1 he
    have fa := hq a (by simp)
    have fb := hq b (by simp)
    have fc := hq c (by simp)
    obtain rfl : n = q := ha.symm.trans fa.1
    obtain rfl : m = n := hb.symm.trans fb.1
    obtain rfl : p = m := hc.symm.trans fc.1
    exact order_good hW hC hJ hT hN A B C a b c p ca cb cc W fa fb fc ka kb kc ra rb rc
  · exact order_bad hW hC hJ hT hN A B C a b c n m p ca cb cc W (isv_of ha ka h1 ra) (isv_of hb kb h2 rb) (isv_of hc kc h3 rc) he

end Go.Proofs.Ytkflngdahnpmbaa.Ve
