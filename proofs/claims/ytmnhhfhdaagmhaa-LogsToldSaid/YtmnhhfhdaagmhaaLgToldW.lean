/-
  LogsTold, walked over what the laws take of the program.
-/
import Derived.Test.YtmnhhfhdaagmhaaLgCommonW
import Derived.Test.YtmnhhfhdaagmhaaLgMaps
import Derived.Maps.RangeWalk
namespace Go.Proofs.Ytmnhhfhdaagmhaa.Lg
set_option linter.unusedVariables false
set_option linter.unusedSimpArgs false
open Go.RowKit Go.Maps Mem Gt
open Jump (Gave equalZ_c contains_c)

/-- A state's answer, whatever it is. -/
theorem said {l : List En} {V W' : World} {x : Ending} (h : (okL l = false → x = .returned (.tuple #[.map none, .int .i64 1])) ∧ (okL l = true → ∃ b, x = .returned (.tuple #[.map (some b), .int .i64 0]) ∧ IsState W' b l) ∧ Below V.heap.size V W') :
    ∃ (v : Value) (k : Int), x = .returned (.tuple #[v, .int .i64 k]) ∧ Below V.heap.size V W' := by
  obtain ⟨h0, h1, hb⟩ := h
  cases hv : okL l with
  | false => exact ⟨_, _, h0 hv, hb⟩
  | true => obtain ⟨b, e, _⟩ := h1 hv; exact ⟨_, _, e, hb⟩
set_option maxRecDepth 100000 in
set_option maxHeartbeats 16000000 in
theorem told_w (hB : BestSpec) (hM : MergeSpec) (hS : StateSpec) (A B : Option Addr) (a b : List En) (n m ca cb : Nat) (W : World) (hn : a.length = n) (hm : b.length = m) (h1 : n ≤ ca) (h2 : m ≤ cb) (h3 : ca ≤ 140737488355328) (h4 : cb ≤ 140737488355328)
    (ha : Reads W A (flat enE a)) (hb : Reads W B (flat enE b)) (fa : FitL a) (fb : FitL b) : Calls Try.prog 5 #[.slice A n ca, .slice B m cb] W (Law.Yes W) := by
  have AL := Lib.hid (alive_c hB hM W)
  have S1 := Lib.hid (fun V (hV : Below W.heap.size W V) => hS A a n ca V hn (by omega) (ha.below hV) fa)
  have S2 := Lib.hid (fun V (hV : Below W.heap.size W V) => hS B b m cb V hm (by omega) (hb.below hV) fb)
  have S3 := Lib.hid (fun V X c (hX : Reads V X (flat enE b)) => hS X b m c V hm (by omega) hX fb)
  rcases lgE_vals a b with ⟨he, o1, o2⟩ | he
  · obtain ⟨ks, hks⟩ : ∃ ks, keysOf (rest2 a b) = ks := ⟨_, rfl⟩
    obtain ⟨wr, hwr⟩ : ∃ wr, a.drop (com a b) = wr := ⟨_, rfl⟩
    obtain ⟨nk, hnk⟩ : ∃ nk, ks.length = nk := ⟨_, rfl⟩
    obtain ⟨nw, hnw⟩ : ∃ nw, wr.length = nw := ⟨_, rfl⟩
    have M1 := Lib.hid (fun V (hV : Below W.heap.size W V) => hM A B a b n m ca cb V b wr ks m nk nw 0 hn hm h1 h2 (by omega) (by omega) (by omega) (by omega) (ha.below hV) (hb.below hV) fa fb he rfl hks hwr hm hnk hnw)
    have NKL : nk ≤ 800 := by
      have e1 := keysOf_len (rest2 a b)
      rw [hks, hnk] at e1
      have e2 := okL_len o1
      have e3 := okL_len o2
      unfold rest2 at e1
      rw [List.length_append, List.length_drop, List.length_drop] at e1
      omega
    have TOLD := Lib.hid (show ∀ x, x ∉ ks → (x ∈ a.map (fun e => e.2.2) ↔ x ∈ b.map (fun e => e.2.2)) ∧ lastN a x = lastN b x from fun x hx => told (by
      rw [← hks] at hx
      exact fun h => hx (((isKeys_of (rest2 a b)).2 x).2 h)))
    have HNK := Lib.hid hnk
    have OA := Lib.hid o1
    have OB := Lib.hid o2
    clear ha hb fa fb hn hm he o1 o2 hks hwr hnk hnw
    go_enter Try.func5, Try.ntmps5
    go_wp2_with fail
    refine AL.out.mono ?_
    rintro u w1 ⟨rfl, hb⟩
    have B1 := Lib.hid hb
    have E1 := Lib.hid (M1.out w1 hb)
    clear hb AL M1
    go_wp2_with fail
    refine E1.out.mono ?_
    rintro u w2 ⟨A1, c1, K1, d1, D1, q1, rfl, _, hr, hk, _, hb⟩
    have B2 := Lib.hid (B1.out.trans (hb.mono B1.out.size))
    have R2 := Lib.hid hr
    have K2 := Lib.hid hk
    have E2 := Lib.hid (S1.out w2 B2.out)
    clear hb hr hk E1 B1 S1
    go_wp2_with fail
    refine E2.out.mono ?_
    rintro u w3 ⟨_, hs1, hb⟩
    obtain ⟨b1, rfl, hst⟩ := hs1 OA.out
    have B3 := Lib.hid (B2.out.trans (hb.mono B2.out.size))
    have T3 := Lib.hid hst
    have R3 := Lib.hid (R2.out.below hb)
    have K3 := Lib.hid (K2.out.below hb)
    have E3 := Lib.hid (S2.out w3 B3.out)
    clear hb hs1 hst E2 B2 S2 R2 K2
    go_wp2_with fail
    refine E3.out.mono ?_
    rintro u w4 ⟨_, hs1, hb⟩
    obtain ⟨b2, rfl, hst⟩ := hs1 OB.out
    have B4 := Lib.hid (B3.out.trans (hb.mono B3.out.size))
    have T4 := Lib.hid (T3.out.later hb)
    have U4 := Lib.hid hst
    have K4 := Lib.hid (K3.out.below hb)
    have E4 := Lib.hid (S3.out w4 A1 c1 (R3.out.below hb))
    clear hb hs1 hst E3 B3 S3 R3 K3 T3
    go_wp2_with fail
    refine E4.out.mono ?_
    rintro u w5 ⟨_, hs1, hb⟩
    obtain ⟨b3, rfl, hst⟩ := hs1 OB.out
    have B5 := Lib.hid (B4.out.trans (hb.mono B4.out.size))
    have T5 := Lib.hid (T4.out.later hb)
    have U5 := Lib.hid (U4.out.later hb)
    have K5 := Lib.hid (K4.out.below hb)
    have EQ := Lib.hid (eqM_c (U4.out.later hb) hst)
    clear hb hs1 hst E4 B4 K4 T4 U4
    go_wp2_with fail
    refine EQ.out.mono ?_
    rintro u w6 ⟨rfl, hb⟩
    have B6 := Lib.hid (B5.out.trans (hb.mono B5.out.size))
    have K6 := Lib.hid (K5.out.below hb)
    have U6 := Lib.hid (U5.out.later hb)
    obtain ⟨ks1, n1, m1, F1, nn1, x1, x2, t1, p1, q1', r1, s1, z1⟩ := T5.out.later hb
    have T6 := Lib.hid (show IsState w6 b1 a from ⟨ks1, n1, m1, F1, nn1, x1, x2, t1, p1, q1', r1, s1, z1⟩)
    have M1' := Lib.hid m1
    have Q1' := Lib.hid q1'
    have R1' := Lib.hid r1
    clear hb EQ B5 K5 U5 T5 n1 m1 x1 x2 t1 q1' r1 s1 z1
    go_wp2_with (at_range; refine wpList_range_own _ rfl _ 27 rfl 3 3 keyI Try.underlying27 _ b1 nn1 F1 rfl p1 ?_; intro w0 hrg0 hg0 hs0)
    go_frame
    have B0 := Lib.hid (show Below w6.heap.size w6 w0 from (Below.refl _ w6).grown hg0 (Nat.le_refl _) (fun j hj => by cases hj))
    have HRG := Lib.hid hrg0
    clear hrg0 hg0 hs0 p1
    go_loopw [15] (fun _ wr => ∃ (left : Lit → Bool) (cnt : Nat), wr.ranges Try.prog 3 (plainElem Try.prog 3) b1 w6.heap.size nn1 F1 left cnt ∧ Below w6.heap.size w6 wr) (fun _ wr => wr.rangeLeft b1 w6.heap.size)
    case atStart => exact ⟨_, _, HRG.out, B0.out⟩
    case round =>
      obtain ⟨left, cnt, hrg, hBw⟩ := hrel
      clear HRG B0
      have BW := Lib.hid hBw
      go_wp2_with (at_next; refine wpList_next_ranges_ii _ rfl _ rfl 3 3 .i64 .i64 keyI Try.underlying3 Try.underlying3 b1 w6.heap.size nn1 _ _ _ rfl hrg ?_ ?_)
      · intro _ _
        have B7 := Lib.hid (B6.out.trans (BW.out.mono B6.out.size))
        have T7 := Lib.hid (T6.out.later BW.out)
        have K7 := Lib.hid (K6.out.below BW.out)
        obtain ⟨ks2, n2, m2, F2, nn2, x1, x2, t2, p2, q2, r2, s2, z2⟩ := U6.out.later BW.out
        obtain ⟨w7, rfl⟩ : ∃ w7 : World, w7 = wr := ⟨_, rfl⟩
        have M2' := Lib.hid m2
        have R2' := Lib.hid r2
        clear hrg hBw BW n2 m2 x1 x2 t2 q2 r2 s2 z2
        clear T6 K6 U6 M1' Q1' R1' B6
        go_wp2_with (at_range; refine wpList_range_own _ rfl _ 27 rfl 3 3 keyI Try.underlying27 _ b2 nn2 F2 rfl p2 ?_; intro w0 hrg0 hg0 hs0)
        go_frame
        have B0 := Lib.hid (show Below w7.heap.size w7 w0 from (Below.refl _ w7).grown hg0 (Nat.le_refl _) (fun j hj => by cases hj))
        have HRG := Lib.hid hrg0
        clear hrg0 hg0 hs0 p2
        go_loopw [19] (fun _ wr => ∃ (left : Lit → Bool) (cnt : Nat), wr.ranges Try.prog 3 (plainElem Try.prog 3) b2 w7.heap.size nn2 F2 left cnt ∧ Below w7.heap.size w7 wr) (fun _ wr => wr.rangeLeft b2 w7.heap.size)
        case atStart => exact ⟨_, _, HRG.out, B0.out⟩
        case round =>
          obtain ⟨left, cnt, hrg, hBw⟩ := hrel
          clear HRG B0
          have BW := Lib.hid hBw
          go_wp2_with (at_next; refine wpList_next_ranges_ii _ rfl _ rfl 3 3 .i64 .i64 keyI Try.underlying3 Try.underlying3 b2 w7.heap.size nn2 _ _ _ rfl hrg ?_ ?_)
          · intro _ _
            have B8 := Lib.hid (B7.out.trans (BW.out.mono B7.out.size))
            clear hrg hBw BW
            go_wp2
            go_ret
            exact ⟨rfl, B8.out⟩
          · intro x c w1' cnt1 hwx hwc hlx hat hrg1 hlt hg1 hs1 hen
            have hin : x ∈ b.map (fun e => e.2.2) := by
              have e := has_true_of_atKey hat
              rw [R2'.out x hwx] at e
              exact (M2'.out x).1 (of_decide_eq_true e)
            have B1' := Lib.hid (show Below w7.heap.size w7 w1' from BW.out.grown hg1 BW.out.size (fun j hj => by cases hj; exact Nat.le_refl _))
            obtain ⟨ks4, n4, m4, hI4⟩ := T7.out.later B1'.out
            have LK := hI4.look2 Try.underlying27 x hwx
            have CT := Lib.hid (fun cc hcc => contains_c K1 ks nk d1 x w1' HNK.out (by omega) (K7.out.below B1'.out) cc hcc)
            obtain ⟨v2, hv2⟩ : ∃ v2, v2 = lastN a x := ⟨_, rfl⟩
            rw [← hv2] at LK
            have HRG1 := Lib.hid hrg1
            have HRG := Lib.hid hrg
            have HLT := Lib.hid hlt
            by_cases hx4 : x ∈ ks4
            · rw [decide_eq_true hx4] at LK
              clear hat hin hI4 m4 n4 hx4 hv2 hrg1 hrg hlt hg1 hs1 hBw hlx
              go_wp2_with fail
              go_roundw
              case rel => exact ⟨_, cnt1, HRG1.out, B1'.out⟩
              case measure => rw [HRG1.out.left_eq, HRG.out.left_eq]; exact HLT.out
            · rw [decide_eq_false hx4] at LK
              have hna : x ∉ a.map (fun e => e.2.2) := fun h => hx4 ((m4 x).2 h)
              have hxk : x ∈ ks := by
                by_cases h : x ∈ ks
                · exact h
                · exact absurd ((TOLD.out x h).1.2 hin) hna
              have CT1 := Lib.hid (CT.out true (decide_eq_true hxk))
              clear hat hin hI4 m4 n4 hx4 hv2 hrg1 hrg hlt hg1 hs1 hBw hlx hna hxk CT
              go_wp2_with (go_at_call 24; refine CT1.out.mono ?_; rintro e w2 ⟨rfl, hw⟩; rw [← hw]; clear hw)
              go_roundw
              case rel => exact ⟨_, cnt1, HRG1.out, B1'.out⟩
              case measure => rw [HRG1.out.left_eq, HRG.out.left_eq]; exact HLT.out
      · intro x c w1' cnt1 hwx hwc hlx hat hrg1 hlt hg1 hs1 hen
        have hc0 : c = lastN a x := by
          have e := (hat (.lit (.int .i64 0))).symm.trans (Q1'.out x hwx)
          injection e with e
          injection e with _ e
        have hin : x ∈ a.map (fun e => e.2.2) := by
          have e := has_true_of_atKey hat
          rw [R1'.out x hwx] at e
          exact (M1'.out x).1 (of_decide_eq_true e)
        have B1' := Lib.hid (show Below w6.heap.size w6 w1' from BW.out.grown hg1 BW.out.size (fun j hj => by cases hj; exact Nat.le_refl _))
        obtain ⟨ks4, n4, m4, hI4⟩ := U6.out.later B1'.out
        have LK := hI4.look2 Try.underlying27 x hwx
        have CT := Lib.hid (fun cc hcc => contains_c K1 ks nk d1 x w1' HNK.out (by omega) (K6.out.below B1'.out) cc hcc)
        have HRG1 := Lib.hid hrg1
        have HRG := Lib.hid hrg
        have HLT := Lib.hid hlt
        by_cases hxk : x ∈ ks
        · obtain ⟨v2, hv2⟩ : ∃ v2, v2 = lastN b x := ⟨_, rfl⟩
          obtain ⟨o2, ho2⟩ : ∃ o2, o2 = decide (x ∈ ks4) := ⟨_, rfl⟩
          rw [← hv2, ← ho2] at LK
          have CT1 := Lib.hid (CT.out true (decide_eq_true hxk))
          clear hat hin hc0 hI4 m4 n4 hv2 ho2 hrg1 hrg hlt hg1 hs1 hBw hlx hxk CT
          go_wp2_with (go_at_call 24; refine CT1.out.mono ?_; rintro e w2 ⟨rfl, hw⟩; rw [← hw]; clear hw)
          go_roundw
          case rel => exact ⟨_, cnt1, HRG1.out, B1'.out⟩
          case measure => rw [HRG1.out.left_eq, HRG.out.left_eq]; exact HLT.out
        · obtain ⟨t1, t2⟩ := TOLD.out x hxk
          rw [decide_eq_true ((m4 x).2 (t1.1 hin)), ← t2, ← hc0] at LK
          have cc : (c != c) = false := by simp
          have CT1 := Lib.hid (CT.out false (decide_eq_false hxk))
          clear hat hin hc0 hI4 m4 n4 hrg1 hrg hlt hg1 hs1 hBw hlx hxk CT t1 t2
          go_wp2_with (go_at_call 24; refine CT1.out.mono ?_; rintro e w2 ⟨rfl, hw⟩; rw [← hw]; clear hw)
          go_roundw
          case rel => exact ⟨_, cnt1, HRG1.out, B1'.out⟩
          case measure => rw [HRG1.out.left_eq, HRG.out.left_eq]; exact HLT.out
  · have M1 := Lib.hid (fun V (hV : Below W.heap.size W V) => hM A B a b n m ca cb V [] [] [] 0 0 0 1 hn hm h1 h2 (by omega) (by omega) (by omega) (by omega) (ha.below hV) (hb.below hV) fa fb he rfl rfl rfl rfl rfl rfl)
    have S4 := Lib.hid (fun V X c (hX : Reads V X (flat enE [])) => hS X [] 0 c V rfl (by omega) hX (fun e h => by simp at h))
    clear ha hb fa fb hn hm he S3
    go_enter Try.func5, Try.ntmps5
    go_wp2_with fail
    refine AL.out.mono ?_
    rintro u w1 ⟨rfl, hb⟩
    have B1 := Lib.hid hb
    have E1 := Lib.hid (M1.out w1 hb)
    clear hb AL M1
    go_wp2_with fail
    refine E1.out.mono ?_
    rintro u w2 ⟨A1, c1, K1, d1, D1, q1, rfl, _, hr, hk, _, hb⟩
    have B2 := Lib.hid (B1.out.trans (hb.mono B1.out.size))
    have R2 := Lib.hid hr
    have E2 := Lib.hid (S1.out w2 B2.out)
    clear hb hr hk E1 B1 S1
    go_wp2_with fail
    refine E2.out.mono ?_
    intro u w3 hst
    obtain ⟨v3, k3, rfl, hb⟩ := said hst
    have B3 := Lib.hid (B2.out.trans (hb.mono B2.out.size))
    have R3 := Lib.hid (R2.out.below hb)
    have E3 := Lib.hid (S2.out w3 B3.out)
    clear hb hst E2 B2 S2 R2
    go_wp2_with fail
    refine E3.out.mono ?_
    intro u w4 hst
    obtain ⟨v4, k4, rfl, hb⟩ := said hst
    have B4 := Lib.hid (B3.out.trans (hb.mono B3.out.size))
    have E4 := Lib.hid (S4.out w4 A1 c1 (R3.out.below hb))
    clear hb hst E3 B3 R3
    go_wp2_with fail
    refine E4.out.mono ?_
    intro u w5 hst
    obtain ⟨v5, k5, rfl, hb⟩ := said hst
    have B5 := Lib.hid (B4.out.trans (hb.mono B4.out.size))
    clear hb hst E4 B4
    go_wp2
    go_ret
    exact ⟨rfl, B5.out⟩
end Go.Proofs.Ytmnhhfhdaagmhaa.Lg
