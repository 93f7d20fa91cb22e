/-
  VectorJoin, walked over what the laws take of the program.
-/
import Derived.Test.YtkflngdahnpmbaaVeAlive
namespace Go.Proofs.Ytkflngdahnpmbaa.Ve
set_option linter.unusedVariables false
set_option linter.unusedSimpArgs false
open Go.RowKit Mem Gt
open Jump (Gave equalZ_c)

theorem isv_of {W : World} {A : Option Addr} {a : Ve} {n ca : Nat} (hn : a.length = n) (hc : n ≤ ca ∧ ca ≤ 9223372036854775807) (hb : n ≤ 140737488355328) (hr : Reads W A (a.map (Value.int .i64))) : IsV W (.slice A n ca) a := by
  subst hn; exact ⟨A, ca, rfl, hc, hb, hr⟩
theorem lit3 (W : World) {u v z : Value} {a b c : Ve} (h1 : IsV W u a) (h2 : IsV W v b) (h3 : IsV W z c) : VRds (W.alloc (.cells #[u, v, z] 22)) (some ⟨W.heap.size, 0, none⟩) [a, b, c] := by
  refine ⟨[u, v, z], reads_lit W _ rfl, rfl, fun k x l hu hl => ?_⟩
  have hk : k < 3 := (List.getElem?_eq_some_iff.1 hl).1
  have hk : k = 0 ∨ k = 1 ∨ k = 2 := by omega
  rcases hk with rfl | rfl | rfl
  · simp at hu hl; subst hu hl; exact h1.below (low_lit _ _)
  · simp at hu hl; subst hu hl; exact h2.below (low_lit _ _)
  · simp at hu hl; subst hu hl; exact h3.below (low_lit _ _)
theorem ok2 {q : Nat} {a b : Ve} (ha : Fine q a) (hb : Fine q b) : wrongE [a, b] = 0 := wrongE_zero.2 ⟨q, fun v hv => by
  simp at hv; rcases hv with rfl | rfl
  · exact ha
  · exact hb⟩
/-- Join and Compare at vectors that are right. -/
theorem join_at (hJ : JoinSpec) {A B : Option Addr} {a b : Ve} {q ca cb : Nat} {V : World} (ha : Fine q a) (hb : Fine q b) (h1 : q ≤ ca ∧ ca ≤ 9223372036854775807) (h2 : q ≤ cb ∧ cb ≤ 9223372036854775807) (hr : Reads V A (a.map (Value.int .i64))) (hs : Reads V B (b.map (Value.int .i64))) :
    Calls Try.prog 9 #[.slice A q ca, .slice B q cb] V (VOut (join a b) q 0 V) :=
  hJ A B a b q q ca cb V (join a b) q 0 ha.1 hb.1 h1 h2 (by have := ha.2.1; omega) (by have := ha.2.1; omega) hr hs (ok2 ha hb) (by rw [if_pos rfl]) (join_fine ha hb).1
theorem cmp_at (hC : CompareSpec) {A B : Option Addr} {a b : Ve} {q ca cb : Nat} {V : World} {c : Int} (ha : Fine q a) (hb : Fine q b) (h1 : q ≤ ca ∧ ca ≤ 9223372036854775807) (h2 : q ≤ cb ∧ cb ≤ 9223372036854775807) (hr : Reads V A (a.map (Value.int .i64))) (hs : Reads V B (b.map (Value.int .i64))) (hc : cmp a b = c) :
    Calls Try.prog 8 #[.slice A q ca, .slice B q cb] V (Gave (.tuple #[.int .i64 c, .int .i64 0]) V) :=
  hC A B a b q q ca cb V c 0 ha.1 hb.1 h1 h2 (by have := ha.2.1; omega) (by have := ha.2.1; omega) hr hs (ok2 ha hb) (by rw [if_pos rfl, hc])
set_option maxRecDepth 100000 in
set_option maxHeartbeats 4000000 in
theorem join_bad (hW : WrongSpec) (hC : CompareSpec) (hJ : JoinSpec) (hT : TickSpec) (hN : NewestSpec) (A B C : Option Addr) (a b c : Ve) (n m p ca cb cc : Nat) (W : World) (h1 : IsV W (.slice A n ca) a) (h2 : IsV W (.slice B m cb) b) (h3 : IsV W (.slice C p cc) c) (he : wrongE [a, b, c] ≠ 0) :
    Calls Try.prog 4 #[.slice A n ca, .slice B m cb, .slice C p cc] W (Law.Yes W) := by
  obtain ⟨e, hee⟩ : ∃ e, wrongE [a, b, c] = e := ⟨_, rfl⟩
  rw [hee] at he
  have AL := Lib.hid (alive_c hC hJ hT hN W)
  have P := Lib.hid (fun w1 (hb : Below W.heap.size W w1) => hW (some ⟨w1.heap.size, 0, none⟩) [a, b, c] 3 3 (w1.alloc (.cells #[.slice A n ca, .slice B m cb, .slice C p cc] 22)) e rfl (by omega) (lit3 w1 (h1.below hb) (h2.below hb) (h3.below hb)) hee)
  clear h1 h2 h3 hee
  go_enter Try.func4, Try.ntmps4
  go_wp2_with fail
  refine AL.out.mono ?_
  rintro u w1 ⟨rfl, hb⟩
  have B1 := Lib.hid hb
  have P1 := Lib.hid (P.out w1 hb)
  clear hb AL P
  go_wp2_with fail
  refine P1.out.mono ?_
  rintro u w2 ⟨rfl, hb⟩
  have B2 := Lib.hid (B1.out.trans (((low_lit w1 (.cells #[.slice A n ca, .slice B m cb, .slice C p cc] 22)).trans (hb.mono (by simp))).mono B1.out.size))
  clear hb P1
  go_wp2
  go_ret
  exact ⟨rfl, B2.out⟩
set_option maxRecDepth 100000 in
set_option maxHeartbeats 8000000 in
theorem join_good (hW : WrongSpec) (hC : CompareSpec) (hJ : JoinSpec) (hT : TickSpec) (hN : NewestSpec) (A B C : Option Addr) (a b c : Ve) (q ca cb cc : Nat) (W : World) (fa : Fine q a) (fb : Fine q b) (fc : Fine q c) (ka : q ≤ ca ∧ ca ≤ 9223372036854775807) (kb : q ≤ cb ∧ cb ≤ 9223372036854775807) (kc : q ≤ cc ∧ cc ≤ 9223372036854775807)
    (ra : Reads W A (a.map (Value.int .i64))) (rb : Reads W B (b.map (Value.int .i64))) (rc : Reads W C (c.map (Value.int .i64))) :
    Calls Try.prog 4 #[.slice A q ca, .slice B q cb, .slice C q cc] W (Law.Yes W) := by
  have hq : q ≤ 16 := fa.2.1
  have AL := Lib.hid (alive_c hC hJ hT hN W)
  have P := Lib.hid (fun w1 (hb : Below W.heap.size W w1) => hW (some ⟨w1.heap.size, 0, none⟩) [a, b, c] 3 3 (w1.alloc (.cells #[.slice A q ca, .slice B q cb, .slice C q cc] 22)) 0 rfl (by omega) (lit3 w1 (isv_of fa.1 ka (by omega) (ra.below hb)) (isv_of fb.1 kb (by omega) (rb.below hb)) (isv_of fc.1 kc (by omega) (rc.below hb))) (wrongE_zero.2 ⟨q, fun v hv => by
    simp at hv; rcases hv with rfl | rfl | rfl
    · exact fa
    · exact fb
    · exact fc⟩))
  have FA := Lib.hid fa
  have FB := Lib.hid fb
  have FC := Lib.hid fc
  have FAB := Lib.hid (join_fine fa fb)
  have FBC := Lib.hid (join_fine fb fc)
  have FX := Lib.hid (join_fine (join_fine fa fb) fc)
  have RA := Lib.hid ra
  have RB := Lib.hid rb
  have RC := Lib.hid rc
  have HC := Lib.hid hC
  have HJ := Lib.hid hJ
  obtain ⟨m0, hm0⟩ : ∃ m0, cmp a (join a b) = m0 := ⟨_, rfl⟩
  obtain ⟨n0, hn0⟩ : ∃ n0, cmp (join a b) (join (join a b) c) = n0 := ⟨_, rfl⟩
  have HM := Lib.hid hm0
  have HN := Lib.hid hn0
  have MV := Lib.hid (show m0 = 1 ∨ m0 = 2 by rw [← hm0]; exact cmp_join (fa.1.trans fb.1.symm))
  have NV := Lib.hid (show n0 = 1 ∨ n0 = 2 by rw [← hn0]; exact cmp_join ((join_fine fa fb).1.trans fc.1.symm))
  clear fa fb fc ra rb rc hC hJ hW hT hN hm0 hn0
  go_enter Try.func4, Try.ntmps4
  go_wp2_with fail
  refine AL.out.mono ?_
  rintro u w1 ⟨rfl, hb⟩
  have B1 := Lib.hid hb
  have P1 := Lib.hid (P.out w1 hb)
  clear hb AL P
  go_wp2_with fail
  refine P1.out.mono ?_
  rintro u w2 ⟨rfl, hb⟩
  have B2 := Lib.hid (B1.out.trans (((low_lit w1 (.cells #[.slice A q ca, .slice B q cb, .slice C q cc] 22)).trans (hb.mono (by simp))).mono B1.out.size))
  clear hb P1
  replace RA := Lib.hid (RA.out.below B2.out)
  replace RB := Lib.hid (RB.out.below B2.out)
  replace RC := Lib.hid (RC.out.below B2.out)
  have JJ := Lib.hid (join_at HJ.out FA.out FB.out ka kb RA.out RB.out)
  go_wp2_with fail
  refine JJ.out.mono ?_
  rintro u w3 ⟨AAB, cAB, rfl, kAB, hr, hb⟩
  clear JJ
  replace RA := Lib.hid (RA.out.below hb)
  replace RB := Lib.hid (RB.out.below hb)
  replace RC := Lib.hid (RC.out.below hb)
  have RAB := Lib.hid hr
  have B3 := Lib.hid (B2.out.trans (hb.mono B2.out.size))
  clear hb hr
  have JJ := Lib.hid (join_at HJ.out FB.out FA.out kb ka RB.out RA.out)
  go_wp2_with fail
  refine JJ.out.mono ?_
  rintro u w4 ⟨ABA, cBA, rfl, kBA, hr, hb⟩
  clear JJ
  replace RA := Lib.hid (RA.out.below hb)
  replace RB := Lib.hid (RB.out.below hb)
  replace RC := Lib.hid (RC.out.below hb)
  replace RAB := Lib.hid (RAB.out.below hb)
  have RBA := Lib.hid hr
  have B4 := Lib.hid (B3.out.trans (hb.mono B3.out.size))
  clear hb hr
  have JJ := Lib.hid (join_at HJ.out FB.out FC.out kb kc RB.out RC.out)
  go_wp2_with fail
  refine JJ.out.mono ?_
  rintro u w5 ⟨ABC, cBC, rfl, kBC, hr, hb⟩
  clear JJ
  replace RA := Lib.hid (RA.out.below hb)
  replace RB := Lib.hid (RB.out.below hb)
  replace RC := Lib.hid (RC.out.below hb)
  replace RAB := Lib.hid (RAB.out.below hb)
  replace RBA := Lib.hid (RBA.out.below hb)
  have RBC := Lib.hid hr
  have B5 := Lib.hid (B4.out.trans (hb.mono B4.out.size))
  clear hb hr
  have JJ := Lib.hid (join_at HJ.out FA.out FA.out ka ka RA.out RA.out)
  go_wp2_with fail
  refine JJ.out.mono ?_
  rintro u w6 ⟨AAA, cAA, rfl, kAA, hr, hb⟩
  clear JJ
  replace RA := Lib.hid (RA.out.below hb)
  replace RB := Lib.hid (RB.out.below hb)
  replace RC := Lib.hid (RC.out.below hb)
  replace RAB := Lib.hid (RAB.out.below hb)
  replace RBA := Lib.hid (RBA.out.below hb)
  replace RBC := Lib.hid (RBC.out.below hb)
  have RAA := Lib.hid hr
  have B6 := Lib.hid (B5.out.trans (hb.mono B5.out.size))
  clear hb hr
  have JJ := Lib.hid (join_at HJ.out FAB.out FC.out kAB kc RAB.out RC.out)
  go_wp2_with fail
  refine JJ.out.mono ?_
  rintro u w7 ⟨AX, cX, rfl, kX, hr, hb⟩
  clear JJ
  replace RA := Lib.hid (RA.out.below hb)
  replace RB := Lib.hid (RB.out.below hb)
  replace RC := Lib.hid (RC.out.below hb)
  replace RAB := Lib.hid (RAB.out.below hb)
  replace RBA := Lib.hid (RBA.out.below hb)
  replace RBC := Lib.hid (RBC.out.below hb)
  replace RAA := Lib.hid (RAA.out.below hb)
  have RX := Lib.hid hr
  have B7 := Lib.hid (B6.out.trans (hb.mono B6.out.size))
  clear hb hr
  have JJ := Lib.hid (join_at HJ.out FA.out FBC.out ka kBC RA.out RBC.out)
  go_wp2_with fail
  refine JJ.out.mono ?_
  rintro u w8 ⟨AY, cY, rfl, kY, hr, hb⟩
  clear JJ
  replace RA := Lib.hid (RA.out.below hb)
  replace RB := Lib.hid (RB.out.below hb)
  replace RC := Lib.hid (RC.out.below hb)
  replace RAB := Lib.hid (RAB.out.below hb)
  replace RBA := Lib.hid (RBA.out.below hb)
  replace RBC := Lib.hid (RBC.out.below hb)
  replace RAA := Lib.hid (RAA.out.below hb)
  replace RX := Lib.hid (RX.out.below hb)
  have RY := Lib.hid hr
  have B8 := Lib.hid (B7.out.trans (hb.mono B7.out.size))
  clear hb hr
  have JJ := Lib.hid (cmp_at HC.out FA.out FAB.out ka kAB RA.out RAB.out HM.out)
  go_wp2_with fail
  refine JJ.out.mono ?_
  rintro u w9 ⟨rfl, hb⟩
  clear JJ
  replace RA := Lib.hid (RA.out.below hb)
  replace RB := Lib.hid (RB.out.below hb)
  replace RC := Lib.hid (RC.out.below hb)
  replace RAB := Lib.hid (RAB.out.below hb)
  replace RBA := Lib.hid (RBA.out.below hb)
  replace RBC := Lib.hid (RBC.out.below hb)
  replace RAA := Lib.hid (RAA.out.below hb)
  replace RX := Lib.hid (RX.out.below hb)
  replace RY := Lib.hid (RY.out.below hb)
  have B9 := Lib.hid (B8.out.trans (hb.mono B8.out.size))
  clear hb
  have JJ := Lib.hid (cmp_at HC.out FAB.out FX.out kAB kX RAB.out RX.out HN.out)
  go_wp2_with fail
  refine JJ.out.mono ?_
  rintro u w10 ⟨rfl, hb⟩
  clear JJ
  replace RA := Lib.hid (RA.out.below hb)
  replace RB := Lib.hid (RB.out.below hb)
  replace RC := Lib.hid (RC.out.below hb)
  replace RAB := Lib.hid (RAB.out.below hb)
  replace RBA := Lib.hid (RBA.out.below hb)
  replace RBC := Lib.hid (RBC.out.below hb)
  replace RAA := Lib.hid (RAA.out.below hb)
  replace RX := Lib.hid (RX.out.below hb)
  replace RY := Lib.hid (RY.out.below hb)
  have B10 := Lib.hid (B9.out.trans (hb.mono B9.out.size))
  clear hb
  replace RBA := Lib.hid (show Reads w10 ABA ((join a b).map (Value.int .i64)) by rw [join_comm]; exact RBA.out)
  replace RY := Lib.hid (show Reads w10 AY ((join (join a b) c).map (Value.int .i64)) by rw [join_assoc]; exact RY.out)
  replace RAA := Lib.hid (show Reads w10 AAA (a.map (Value.int .i64)) by have := RAA.out; rwa [join_self] at this)
  have E1 := Lib.hid (equalZ_c AAB ABA (join a b) (join a b) q q cAB cBA w10 FAB.out.1 FAB.out.1 (by omega) (by omega) RAB.out RBA.out)
  have E2 := Lib.hid (fun w (hb : Below w10.heap.size w10 w) => equalZ_c AX AY (join (join a b) c) (join (join a b) c) q q cX cY w FX.out.1 FX.out.1 (by omega) (by omega) (RX.out.below hb) (RY.out.below hb))
  have E3 := Lib.hid (fun w (hb : Below w10.heap.size w10 w) => equalZ_c AAA A a a q q cAA ca w FA.out.1 FA.out.1 (by omega) (by omega) (RAA.out.below hb) (RA.out.below hb))
  clear RA RB RC RAB RBA RBC RAA RX RY kAB kBA kBC kAA kX kY
  rw [decide_eq_true rfl] at E1
  simp only [decide_true] at E2 E3
  go_wp2_with fail
  refine E1.out.mono ?_
  rintro u w11 ⟨rfl, hb⟩
  have C1 := Lib.hid hb
  have E4 := Lib.hid (E2.out w11 hb)
  clear hb E1 E2
  go_wp2_with fail
  refine E4.out.mono ?_
  rintro u w12 ⟨rfl, hb⟩
  have C2 := Lib.hid (C1.out.trans (hb.mono C1.out.size))
  have E5 := Lib.hid (E3.out w12 C2.out)
  clear hb E4 E3
  go_wp2_with fail
  refine E5.out.mono ?_
  rintro u w13 ⟨rfl, hb⟩
  have C3 := Lib.hid (B10.out.trans ((C2.out.trans (hb.mono C2.out.size)).mono B10.out.size))
  clear hb E5
  rcases MV.out with hm | hm <;> rcases NV.out with hn | hn <;> subst hm <;> subst hn
  all_goals
    go_wp2
    go_ret
    exact ⟨rfl, C3.out⟩
theorem join_w (hW : WrongSpec) (hC : CompareSpec) (hJ : JoinSpec) (hT : TickSpec) (hN : NewestSpec) (A B C : Option Addr) (a b c : Ve) (n m p ca cb cc : Nat) (W : World) (ha : a.length = n) (hb : b.length = m) (hc : c.length = p) (ka : n ≤ ca ∧ ca ≤ 9223372036854775807) (kb : m ≤ cb ∧ cb ≤ 9223372036854775807) (kc : p ≤ cc ∧ cc ≤ 9223372036854775807)
    (h1 : n ≤ 140737488355328) (h2 : m ≤ 140737488355328) (h3 : p ≤ 140737488355328) (ra : Reads W A (a.map (Value.int .i64))) (rb : Reads W B (b.map (Value.int .i64))) (rc : Reads W C (c.map (Value.int .i64))) :
    Calls Try.prog 4 #[.slice A n ca, .slice B m cb, .slice C p cc] W (Law.Yes W) := by
  by_cases he : wrongE [a, b, c] = 0
  · obtain ⟨q, hq⟩ := wrongE_zero.1 he
    have fa := hq a (by simp)
    have fb := hq b (by simp)
    have fc := hq c (by simp)
    obtain rfl : n = q := ha.symm.trans fa.1
    obtain rfl : m = n := hb.symm.trans fb.1
    obtain rfl : p = m := hc.symm.trans fc.1
    exact join_good hW hC hJ hT hN A B C a b c p ca cb cc W fa fb fc ka kb kc ra rb rc
  · exact join_bad hW hC hJ hT hN A B C a b c n m p ca cb cc W (isv_of ha ka h1 ra) (isv_of hb kb h2 rb) (isv_of hc kc h3 rc) he
end Go.Proofs.Ytkflngdahnpmbaa.Ve
