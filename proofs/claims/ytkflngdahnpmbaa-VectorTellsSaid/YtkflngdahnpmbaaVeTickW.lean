/-
  VectorTick, walked over what the laws take of the program: who can't tick; the other can't.
-/
import Derived.Test.YtkflngdahnpmbaaVeJoinW
import Derived.Test.YtkflngdahnpmbaaGBMap
namespace Go.Proofs.Ytkflngdahnpmbaa.Ve
set_option linter.unusedVariables false
set_option linter.unusedSimpArgs false
open Go.RowKit Mem Gt
open Jump (Gave equalZ_c)

theorem tick_zero {a : Ve} {who : Int} (h : tickE a who = 0) : ∃ k : Nat, who = (k : Int) ∧ Fine a.length a ∧ k < a.length ∧ a.getD k 0 ≠ 1099511627776 := by
  unfold tickE at h
  split at h
  · rename_i h1; exact absurd h h1
  · rename_i h1
    split at h
    · cases h
    · rename_i h2
      split at h
      · cases h
      · rename_i h3
        obtain ⟨k, rfl⟩ : ∃ k : Nat, who = (k : Int) := ⟨who.toNat, by omega⟩
        obtain ⟨n, hn⟩ := wrongE_zero.1 (Decidable.of_not_not h1)
        have f := hn a (by simp)
        exact ⟨k, rfl, by rw [f.1]; exact f, by omega, by simpa using h3⟩
set_option maxRecDepth 100000 in
set_option maxHeartbeats 4000000 in
theorem tick_bad (hC : CompareSpec) (hJ : JoinSpec) (hT : TickSpec) (hN : NewestSpec) (A : Option Addr) (a : Ve) (n ca : Nat) (who other : Int) (W : World) (hn : a.length = n) (ka : n ≤ ca ∧ ca ≤ 9223372036854775807) (h1 : n ≤ 140737488355328) (ra : Reads W A (a.map (Value.int .i64))) (hw : (Lit.int .i64 who).wf = true) (ho : (Lit.int .i64 other).wf = true) (he : tickE a who ≠ 0) :
    Calls Try.prog 6 #[.slice A n ca, .int .i64 who, .int .i64 other] W (Law.Yes W) := by
  obtain ⟨e, hee⟩ : ∃ e, tickE a who = e := ⟨_, rfl⟩
  rw [hee] at he
  obtain ⟨f, hff⟩ : ∃ e, tickE a other = e := ⟨_, rfl⟩
  obtain ⟨l, hl⟩ : ∃ l, (if f = 0 then bump a other.toNat else []) = l := ⟨_, rfl⟩
  obtain ⟨k, hk⟩ : ∃ k, l.length = k := ⟨_, rfl⟩
  have AL := Lib.hid (alive_c hC hJ hT hN W)
  have P := Lib.hid (fun w1 (hb : Below W.heap.size W w1) => hT A a n ca who w1 [] 0 e hn ka h1 (ra.below hb) hw hee (by rw [if_neg he]) rfl)
  have Q := Lib.hid (fun w1 (hb : Below W.heap.size W w1) => hT A a n ca other w1 l k f hn ka h1 (ra.below hb) ho hff hl hk)
  clear hee hff hl hk ra hC hJ hT hN hw ho hn
  go_enter Try.func6, Try.ntmps6
  go_wp2_with fail
  refine AL.out.mono ?_
  rintro u w1 ⟨rfl, hb⟩
  have B1 := Lib.hid hb
  have P1 := Lib.hid (P.out w1 hb)
  clear hb AL P
  go_wp2_with fail
  refine P1.out.mono ?_
  rintro u w2 ⟨X, cx, rfl, kx, hr, hb⟩
  have B2 := Lib.hid (B1.out.trans (hb.mono B1.out.size))
  have Q1 := Lib.hid (Q.out w2 B2.out)
  clear hb hr P1 Q
  go_wp2_with fail
  refine Q1.out.mono ?_
  rintro u w3 ⟨Y, cy, rfl, ky, hr, hb⟩
  have B3 := Lib.hid (B2.out.trans (hb.mono B2.out.size))
  clear hb hr Q1
  go_wp2
  go_ret
  exact ⟨rfl, B3.out⟩
set_option maxRecDepth 100000 in
set_option maxHeartbeats 4000000 in
theorem tick_one (hC : CompareSpec) (hJ : JoinSpec) (hT : TickSpec) (hN : NewestSpec) (A : Option Addr) (a : Ve) (n ca : Nat) (who other : Int) (W : World) (hn : a.length = n) (ka : n ≤ ca ∧ ca ≤ 9223372036854775807) (h1 : n ≤ 140737488355328) (ra : Reads W A (a.map (Value.int .i64))) (hw : (Lit.int .i64 who).wf = true) (ho : (Lit.int .i64 other).wf = true) (he : tickE a who = 0) (hf : tickE a other ≠ 0) :
    Calls Try.prog 6 #[.slice A n ca, .int .i64 who, .int .i64 other] W (Law.Yes W) := by
  obtain ⟨i, rfl, fa, hi, hm⟩ := tick_zero he
  obtain ⟨f, hff⟩ : ∃ e, tickE a other = e := ⟨_, rfl⟩
  rw [hff] at hf
  rw [hn] at fa hi
  have fb : Fine n (bump a i) := bump_fine fa hm hi
  have AL := Lib.hid (alive_c hC hJ hT hN W)
  have P := Lib.hid (fun w1 (hb : Below W.heap.size W w1) => hT A a n ca i w1 (bump a i) n 0 hn ka h1 (ra.below hb) hw he (by rw [if_pos rfl]; rfl) fb.1)
  have Q := Lib.hid (fun w1 (hb : Below W.heap.size W w1) => hT A a n ca other w1 [] 0 f hn ka h1 (ra.below hb) ho hff (by rw [if_neg hf]) rfl)
  have D := Lib.hid (fun X cx w3 (kx : n ≤ cx ∧ cx ≤ 9223372036854775807) (hb : Below W.heap.size W w3) (hr : Reads w3 X ((bump a i).map (Value.int .i64))) => cmp_at hC fa fb ka kx (ra.below hb) hr (bump_over (by rw [hn]; exact hi)))
  clear hff ra hC hJ hT hN hw ho hn fa fb hm he
  go_enter Try.func6, Try.ntmps6
  go_wp2_with fail
  refine AL.out.mono ?_
  rintro u w1 ⟨rfl, hb⟩
  have B1 := Lib.hid hb
  have P1 := Lib.hid (P.out w1 hb)
  clear hb AL P
  go_wp2_with fail
  refine P1.out.mono ?_
  rintro u w2 ⟨X, cx, rfl, kx, hr, hb⟩
  have B2 := Lib.hid (B1.out.trans (hb.mono B1.out.size))
  have Q1 := Lib.hid (Q.out w2 B2.out)
  have RX := Lib.hid hr
  clear hb hr P1 Q
  go_wp2_with fail
  refine Q1.out.mono ?_
  rintro u w3 ⟨Y, cy, rfl, ky, hr, hb⟩
  have B3 := Lib.hid (B2.out.trans (hb.mono B2.out.size))
  have D1 := Lib.hid (D.out X cx w3 kx B3.out (RX.out.below hb))
  clear hb hr Q1 RX D
  go_wp2_with fail
  refine D1.out.mono ?_
  rintro u w4 ⟨rfl, hb⟩
  have B4 := Lib.hid (B3.out.trans (hb.mono B3.out.size))
  clear hb D1
  go_wp2
  go_ret
  exact ⟨rfl, B4.out⟩
set_option maxRecDepth 100000 in
set_option maxHeartbeats 4000000 in
theorem tick_two (hC : CompareSpec) (hJ : JoinSpec) (hT : TickSpec) (hN : NewestSpec) (A : Option Addr) (a : Ve) (n ca : Nat) (who other : Int) (W : World) (hn : a.length = n) (ka : n ≤ ca ∧ ca ≤ 9223372036854775807) (h1 : n ≤ 140737488355328) (ra : Reads W A (a.map (Value.int .i64))) (hw : (Lit.int .i64 who).wf = true) (ho : (Lit.int .i64 other).wf = true) (he : tickE a who = 0) (hf : tickE a other = 0) :
    Calls Try.prog 6 #[.slice A n ca, .int .i64 who, .int .i64 other] W (Law.Yes W) := by
  obtain ⟨i, rfl, fa, hi, hm⟩ := tick_zero he
  obtain ⟨j, rfl, _, hj, hm2⟩ := tick_zero hf
  obtain ⟨d, hd⟩ : ∃ d, cmp (bump a i) (bump a j) = d := ⟨_, rfl⟩
  have DV := Lib.hid (hd.symm.trans (bump_two hi hj))
  rw [hn] at fa hi hj
  have fb : Fine n (bump a i) := bump_fine fa hm hi
  have fc : Fine n (bump a j) := bump_fine fa hm2 hj
  have AL := Lib.hid (alive_c hC hJ hT hN W)
  have P := Lib.hid (fun w1 (hb : Below W.heap.size W w1) => hT A a n ca i w1 (bump a i) n 0 hn ka h1 (ra.below hb) hw he (by rw [if_pos rfl]; rfl) fb.1)
  have Q := Lib.hid (fun w1 (hb : Below W.heap.size W w1) => hT A a n ca j w1 (bump a j) n 0 hn ka h1 (ra.below hb) ho hf (by rw [if_pos rfl]; rfl) fc.1)
  have D := Lib.hid (fun X cx w3 (kx : n ≤ cx ∧ cx ≤ 9223372036854775807) (hb : Below W.heap.size W w3) (hr : Reads w3 X ((bump a i).map (Value.int .i64))) => cmp_at hC fa fb ka kx (ra.below hb) hr (bump_over (by rw [hn]; exact hi)))
  have G := Lib.hid (fun X cx Y cy w3 (kx : n ≤ cx ∧ cx ≤ 9223372036854775807) (ky : n ≤ cy ∧ cy ≤ 9223372036854775807) (hr : Reads w3 X ((bump a i).map (Value.int .i64))) (hs : Reads w3 Y ((bump a j).map (Value.int .i64))) => cmp_at hC fb fc kx ky hr hs hd)
  clear ra hC hJ hT hN hw ho hn fa fb fc hm hm2 he hf hd
  have hmm := @run_makeMap Try.prog
  go_enter Try.func6, Try.ntmps6
  go_wp2_with fail
  refine AL.out.mono ?_
  rintro u w1 ⟨rfl, hb⟩
  have B1 := Lib.hid hb
  have P1 := Lib.hid (P.out w1 hb)
  clear hb AL P
  go_wp2_with fail
  refine P1.out.mono ?_
  rintro u w2 ⟨X, cx, rfl, kx, hr, hb⟩
  have B2 := Lib.hid (B1.out.trans (hb.mono B1.out.size))
  have Q1 := Lib.hid (Q.out w2 B2.out)
  have RX := Lib.hid hr
  clear hb hr P1 Q
  go_wp2_with fail
  refine Q1.out.mono ?_
  rintro u w3 ⟨Y, cy, rfl, ky, hr, hb⟩
  have B3 := Lib.hid (B2.out.trans (hb.mono B2.out.size))
  have D1 := Lib.hid (D.out X cx w3 kx B3.out (RX.out.below hb))
  have G1 := Lib.hid (fun w4 (h4 : Below w3.heap.size w3 w4) => G.out X cx Y cy w4 kx ky ((RX.out.below hb).below h4) (hr.below h4))
  clear hb hr Q1 RX D G
  go_wp2_with fail
  refine D1.out.mono ?_
  rintro u w4 ⟨rfl, hb⟩
  have B4 := Lib.hid (B3.out.trans (hb.mono B3.out.size))
  have G2 := Lib.hid (G1.out w4 hb)
  clear hb D1 G1
  go_wp2_with fail
  refine G2.out.mono ?_
  rintro u w5 ⟨rfl, hb⟩
  have B5 := Lib.hid (B4.out.trans (hb.mono B4.out.size))
  clear hb G2
  obtain ⟨V1, r1, g1, q1⟩ := (BMap.made w5).upd (t := 43) Try.underlying43 (by omega) true 1 (by decide)
  obtain ⟨V2, r2, g2, q2⟩ := g1.upd (t := 43) Try.underlying43 (by omega) false 4 (by decide)
  have B6 := B5.out.trans ((low_lit w5 (.map #[] 0)).mono B5.out.size)
  have B7 := B6.grown q1 B6.size (fun k hk => by injection hk with hk; subst hk; exact B5.out.size)
  have B8 := Lib.hid (B7.grown q2 B7.size (fun k hk => by injection hk with hk; subst hk; exact B5.out.size))
  have LT := Lib.hid (show (Instr.lookup 43 (.map (some w5.heap.size)) (.bool true) false).run Try.prog V2 = .ok (.int .i64 1) V2 from g2.look Try.underlying43 true)
  have LF := Lib.hid (show (Instr.lookup 43 (.map (some w5.heap.size)) (.bool false) false).run Try.prog V2 = .ok (.int .i64 4) V2 from g2.look Try.underlying43 false)
  clear g1 g2 q1 q2 B6 B7 B1 B2 B3 B4 B5
  have dv := DV.out
  clear DV
  by_cases hij : i = j
  · subst hij
    rw [if_pos rfl] at dv
    subst dv
    have r3 := LT.out
    have ee : ((i : Int) == (i : Int)) = true := by simp
    go_wp2
    go_ret
    exact ⟨rfl, B8.out⟩
  · rw [if_neg hij] at dv
    subst dv
    have r3 := LF.out
    have ee : ((i : Int) == (j : Int)) = false := by simp; omega
    go_wp2
    go_ret
    exact ⟨rfl, B8.out⟩
theorem tick_w (hC : CompareSpec) (hJ : JoinSpec) (hT : TickSpec) (hN : NewestSpec) (A : Option Addr) (a : Ve) (n ca : Nat) (who other : Int) (W : World) (hn : a.length = n) (ka : n ≤ ca ∧ ca ≤ 9223372036854775807) (h1 : n ≤ 140737488355328) (ra : Reads W A (a.map (Value.int .i64))) (hw : (Lit.int .i64 who).wf = true) (ho : (Lit.int .i64 other).wf = true) :
    Calls Try.prog 6 #[.slice A n ca, .int .i64 who, .int .i64 other] W (Law.Yes W) := by
  by_cases he : tickE a who = 0
  · by_cases hf : tickE a other = 0
    · exact tick_two hC hJ hT hN A a n ca who other W hn ka h1 ra hw ho he hf
    · exact tick_one hC hJ hT hN A a n ca who other W hn ka h1 ra hw ho he hf
  · exact tick_bad hC hJ hT hN A a n ca who other W hn ka h1 ra hw ho he
end Go.Proofs.Ytkflngdahnpmbaa.Ve
