/-
  Package synod: perform.
-/
import Derived.Test.YtpoielmbdofjlaaSpD
namespace Go.Proofs.Ytpoielmbdofjlaa.Syn
set_option linter.unusedVariables false
set_option linter.unusedSimpArgs false
open Go.RowKit Mem Gt
open Jump (Gave equalZ_c)

set_option maxRecDepth 100000 in
set_option maxHeartbeats 16000000 in
theorem perf_c (B n : Nat) (oa ob : Int) (oc : Nat) (od : Int) (p : PS) (g : Nat → Nat) (V : World) (hn : n ≤ 16) (ho : oc < 65536) (h : Co B n p g V) :
    Calls Try.prog 17 #[.pointer (some ⟨B + 2, 0, none⟩), .agg #[.int .i64 oa, .int .i64 ob, .int .u16 oc, .int .i64 od]] V (OpOut B n p g V (pstep n p (oa, ob, oc, od)).2 (pstep n p (oa, ob, oc, od)).1) := by
  have S0 := Lib.hid (Mi.start (o := (oa, ob, oc, od)) h)
  obtain ⟨w0, hw0⟩ : ∃ w0, w0 = (V.alloc (.cells (opC (oa, ob, oc, od)) tOp)).alloc (.cells (anC (0, 0, 0)) tAn) := ⟨_, rfl⟩
  rw [← hw0] at S0
  have HW := Lib.hid (show w0 = (V.alloc (.cells #[.int .i64 oa, .int .i64 ob, .int .u16 oc, .int .i64 od] 37)).alloc (.cells #[.int .i64 0, .int .u16 0, .int .i64 0] 31) from hw0)
  clear hw0
  have y0 := S0.out.o0
  have y1 := S0.out.o1
  have y2 := S0.out.o2
  have y3 := S0.out.o3
  obtain ⟨a0, a1, a2, f0, f1, f2⟩ := S0.out.a
  simp only at y0 y1 y2 y3 a0 a1 a2
  clear h
  by_cases hr : ob < 1 ∨ 400 < ob
  · have E := Lib.hid (show pstep n p (oa, ob, oc, od) = (p, 2, 0, 0) by unfold pstep; rw [if_pos hr])
    have M3 := Lib.hid (S0.out.put3 (2, 0, 0))
    rcases hr with hr | hr
    · go_enter Try.func17, Try.ntmps17
      go_upto_region 1 with fail
      rw [← HW.out]
      clear HW
      go_wp2
      rw [E.out]
      refine bodyPost_ret (v := .agg (anC (2, 0, 0))) ?_ rfl ⟨rfl, g, M3.out.co, M3.out.mv, fun c hc => (M3.out.nw c hc).imp id (fun h => by omega)⟩
      exact M3.out.ret rfl _ rfl
    · have i2 : ¬ ob < 1 := by omega
      go_enter Try.func17, Try.ntmps17
      go_upto_region 1 with fail
      rw [← HW.out]
      clear HW
      go_wp2
      rw [E.out]
      refine bodyPost_ret (v := .agg (anC (2, 0, 0))) ?_ rfl ⟨rfl, g, M3.out.co, M3.out.mv, fun c hc => (M3.out.nw c hc).imp id (fun h => by omega)⟩
      exact M3.out.ret rfl _ rfl
  · have E0 := Lib.hid hr
    obtain ⟨b, rfl⟩ : ∃ b : Nat, ob = (b : Int) := ⟨ob.toNat, by omega⟩
    have h1 : 1 ≤ b := by omega
    have h4 : b ≤ 400 := by omega
    have i1 : ¬ (b : Int) < 1 := by omega
    have i2 : ¬ (400 : Int) < (b : Int) := by omega
    clear hr
    by_cases hk1 : oa = 1
    · subst hk1
      obtain ⟨⟨q, xe, xd, xv⟩, hx⟩ : ∃ x, pprep n p b oc od = x := ⟨_, rfl⟩
      have E := Lib.hid (show pstep n p (1, (b : Int), oc, od) = (q, xe, xd, xv) by unfold pstep; rw [if_neg E0.out, if_pos rfl]; simp only [Int.toNat_natCast]; exact hx)
      have PC := Lib.hid (show Calls Try.prog 21 #[.pointer (some ⟨B + 2, 0, none⟩), .agg #[.int .i64 1, .int .i64 b, .int .u16 oc, .int .i64 od]] w0 (fun e W' => e = .returned (.agg #[.int .i64 xe, .int .u16 (xd : Nat), .int .i64 xv]) ∧ ∃ g', Co B n q g' W' ∧ Mv B p g w0 W' ∧ Nw p g w0.heap.size q g') by
        have := prep_c B n b oc od p g w0 hn h1 h4 ho S0.out.co
        rw [hx] at this
        exact this)
      clear hx E0
      go_enter Try.func17, Try.ntmps17
      go_upto_region 1 with fail
      rw [← HW.out]
      clear HW a0 a1 a2 f0 f1 f2
      go_wp2_with (go_at_call 21; refine PC.out.mono ?_; rintro e w1 ⟨rfl, g', hC, hM, hN⟩; have M1 := Lib.hid (S0.out.move hC hM hN); obtain ⟨a0, a1, a2, f0, f1, f2⟩ := M1.out.a; simp only at a0 a1 a2; have M3 := Lib.hid (M1.out.put3 (xe, xd, xv)); clear hC hM hN M1 PC)
      rw [E.out]
      refine bodyPost_ret (v := .agg (anC (xe, xd, xv))) ?_ rfl ⟨rfl, g', M3.out.co, M3.out.mv, fun c hc => (M3.out.nw c hc).imp id (fun h => by omega)⟩
      exact M3.out.ret rfl _ rfl
    · have k1 : (oa == 1) = false := by simpa using hk1
      by_cases hk2 : oa = 2
      · subst hk2
        obtain ⟨⟨q, xe, xd, xv⟩, hx⟩ : ∃ x, pacc n p b oc = x := ⟨_, rfl⟩
        have E := Lib.hid (show pstep n p (2, (b : Int), oc, od) = (q, xe, xd, xv) by unfold pstep; rw [if_neg E0.out, if_neg (show ¬ (2 : Int) = 1 by decide), if_pos rfl]; simp only [Int.toNat_natCast]; exact hx)
        have PC := Lib.hid (show Calls Try.prog 22 #[.pointer (some ⟨B + 2, 0, none⟩), .agg #[.int .i64 2, .int .i64 b, .int .u16 oc, .int .i64 od]] w0 (fun e W' => e = .returned (.agg #[.int .i64 xe, .int .u16 (xd : Nat), .int .i64 xv]) ∧ ∃ g', Co B n q g' W' ∧ Mv B p g w0 W' ∧ Nw p g w0.heap.size q g') by
          have := acc_c B n b oc od p g w0 hn h1 h4 ho S0.out.co
          rw [hx] at this
          exact this)
        clear hx E0 hk1 k1
        go_enter Try.func17, Try.ntmps17
        go_upto_region 1 with fail
        rw [← HW.out]
        clear HW a0 a1 a2 f0 f1 f2
        go_wp2_with (go_at_call 22; refine PC.out.mono ?_; rintro e w1 ⟨rfl, g', hC, hM, hN⟩; have M1 := Lib.hid (S0.out.move hC hM hN); obtain ⟨a0, a1, a2, f0, f1, f2⟩ := M1.out.a; simp only at a0 a1 a2; have M3 := Lib.hid (M1.out.put3 (xe, xd, xv)); clear hC hM hN M1 PC)
        rw [E.out]
        refine bodyPost_ret (v := .agg (anC (xe, xd, xv))) ?_ rfl ⟨rfl, g', M3.out.co, M3.out.mv, fun c hc => (M3.out.nw c hc).imp id (fun h => by omega)⟩
        exact M3.out.ret rfl _ rfl
      · have k2 : (oa == 2) = false := by simpa using hk2
        have E := Lib.hid (show pstep n p (oa, (b : Int), oc, od) = (p, 5, 0, 0) by unfold pstep; rw [if_neg E0.out, if_neg hk1, if_neg hk2])
        have M3 := Lib.hid (S0.out.put3 (5, 0, 0))
        clear E0 hk1 hk2
        go_enter Try.func17, Try.ntmps17
        go_upto_region 1 with fail
        rw [← HW.out]
        clear HW
        go_wp2
        rw [E.out]
        refine bodyPost_ret (v := .agg (anC (5, 0, 0))) ?_ rfl ⟨rfl, g, M3.out.co, M3.out.mv, fun c hc => (M3.out.nw c hc).imp id (fun h => by omega)⟩
        exact M3.out.ret rfl _ rfl
end Go.Proofs.Ytpoielmbdofjlaa.Syn
