/-
  The document's own answers on tables: JPrime, JWrong, JLike.
-/
import Derived.Test.YtahhgeecikljdaaTbB
import Derived.Test.YtahhgeecikljdaaBigOne
namespace Go.Proofs.Ytahhgeecikljdaa.Tb
set_option linter.unusedVariables false
set_option linter.unusedSimpArgs false
open Go.RowKit Mem

/-! ### JPrime -/
set_option maxHeartbeats 2000000 in
theorem jprime_c (n : Nat) (h1 : 1 ≤ n) (hn : n ≤ 1000) (W : World) :
    Calls Try.prog 27 #[.int .i64 n] W fun e w' => e = .returned (.bool (decide (Prm n))) ∧ W = w' := by
  have E : Hid (decide (Prm n) = decide (dv n n = 2)) := by
    show decide (Prm n) = decide (dv n n = 2)
    rw [decide_eq_decide]; exact (dv_prm h1).symm
  have Z := Lib.hid (dv_zero n)
  have SU := Lib.hid (fun k => dv_succ n k)
  have LE := Lib.hid (fun k => dv_le n k)
  go_enter Try.func27, Try.ntmps27
  go_wp2
  go_loop [3, 4] (fun m i => ∃ k c : Nat, k ≤ n ∧ c = dv n k ∧ i = .int .i64 ((k : Int) + 1) ∧ m = .int .i64 c) (fun _ i => 1001 - (intOf i).toNat)
  case atStart => exact ⟨0, 0, by omega, Z.out.symm, rfl, rfl⟩
  case round =>
    obtain ⟨k, c, hk, hc, rfl, rfl⟩ := hrel
    have S := Lib.hid (SU.out k)
    have hcl : c ≤ k := by rw [hc]; exact LE.out k
    have HC := Lib.hid hc
    clear hc
    by_cases hlt : k < n
    · have i1 : (k : Int) + 1 ≤ (n : Int) := by omega
      have i0 : (k : Int) < (n : Int) := by omega
      have d0 : (((k : Int) + 1) == 0) = false := by simp; omega
      have d1 : ¬ (k : Int) + 1 = 0 := by omega
      have md : (n : Int).tmod ((k : Int) + 1) = ((n % (k + 1) : Nat) : Int) := by rw [Int.tmod_eq_emod_of_nonneg (by omega), Int.natCast_emod]; rfl
      have md2 : (n : Int) % ((k : Int) + 1) = ((n % (k + 1) : Nat) : Int) := by rw [Int.natCast_emod]; rfl
      have mb : n % (k + 1) < k + 1 := Nat.mod_lt _ (by omega)
      obtain ⟨r, hr⟩ : ∃ r, r = n % (k + 1) := ⟨_, rfl⟩
      rw [← hr] at md md2 mb S
      clear hr
      have w2 : IntKind.i64.wrap ((k : Int) + 1 + 1) = (k : Int) + 1 + 1 := IntWalk.i64_in _ (by omega)
      by_cases h0 : r = 0
      · subst h0
        have N := Lib.hid (show c + 1 = dv n (k + 1) by rw [S.out, ← HC.out, if_pos rfl])
        go_wp2
        go_round
        case rel => exact ⟨k + 1, c + 1, by omega, N.out, by go_num, by go_num⟩
        case measure => simp [intOf]; omega
      · have N := Lib.hid (show c = dv n (k + 1) by rw [S.out, ← HC.out, if_neg h0]; rfl)
        have r0 : ¬ (r : Int) = 0 := by omega
        have r1 : ((r : Int) == 0) = false := by simp; omega
        go_wp2
        go_round
        case rel => exact ⟨k + 1, c, by omega, N.out, by go_num, rfl⟩
        case measure => simp [intOf]; omega
    · obtain rfl : k = n := by omega
      have i1 : ¬ (k : Int) + 1 ≤ (k : Int) := by omega
      have E2 : Hid (decide (Prm k) = ((c : Int) == 2)) := by
        show decide (Prm k) = ((c : Int) == 2)
        rw [E.out, ← HC.out, Bool.eq_iff_iff]; simp; omega
      generalize hq : ((c : Int) == 2) = q at *
      go_wp2
      go_ret
      exact ⟨by rw [E2.out]; rfl, rfl⟩

/-! ### JWrong -/
set_option maxHeartbeats 2000000 in
theorem jwrong_size (A : Option Addr) (n ca : Nat) (size : Int) (W : World) (hbig : n ≤ maxLen) (h : BadT n size) :
    Calls Try.prog 11 #[.slice A n ca, .int .i64 size] W fun e w' => e = .returned (.int .i64 2) ∧ W = w' := by
  unfold BadT at h
  unfold maxLen at hbig
  by_cases h1 : n < 1
  · obtain rfl : n = 0 := by omega
    clear h
    go_enter Try.func11, Try.ntmps11
    go_wp2
    go_ret
    exact ⟨rfl, rfl⟩
  have n0 : ((n : Int) == 0) = false := by simp; omega
  have n1 : ¬ n = 0 := by omega
  by_cases h2 : 16 < n
  · have d2 : decide ((16 : Int) < (n : Int)) = true := decide_eq_true (by omega)
    clear h
    go_enter Try.func11, Try.ntmps11
    go_wp2
    go_ret
    exact ⟨rfl, rfl⟩
  have d2 : decide ((16 : Int) < (n : Int)) = false := decide_eq_false (by omega)
  by_cases h3 : size < 1
  · have d3 : decide (size < 1) = true := decide_eq_true h3
    clear h
    go_enter Try.func11, Try.ntmps11
    go_wp2
    go_ret
    exact ⟨rfl, rfl⟩
  · have d3 : decide (size < 1) = false := decide_eq_false h3
    have d4 : decide (1000 < size) = true := decide_eq_true (by omega)
    clear h
    go_enter Try.func11, Try.ntmps11
    go_wp2
    go_ret
    exact ⟨rfl, rfl⟩
theorem held_out {ids : List Int} {k j : Nat} {x y : Int} (hk : k ≤ ids.length) (hj : j < k) (hy : ids[j]? = some y) (e : x = y) : x ∈ ids.take k := by
  subst e
  exact List.mem_of_getElem? (i := j) (by rw [List.getElem?_take_of_lt hj]; exact hy)
theorem held_not {ids : List Int} {k : Nat} {x : Int} (h : ∀ i y, i < k → ids[i]? = some y → x ≠ y) : x ∉ ids.take k := fun hm => by
  obtain ⟨i, hi⟩ := List.mem_iff_getElem?.1 hm
  have hl := (List.getElem?_eq_some_iff.1 hi).1
  rw [List.length_take] at hl
  rw [List.getElem?_take_of_lt (by omega)] at hi
  exact h i x (by omega) hi rfl
set_option maxRecDepth 100000 in
set_option maxHeartbeats 8000000 in
theorem jwrong_scan (A : Option Addr) (ids : List Int) (n ca p : Nat) (W : World) (hn : ids.length = n) (hca : n ≤ ca) (h1 : 1 ≤ n) (h16 : n ≤ 16) (hx : Reads W A (ids.map (Value.int .i64))) (hp : Prm p) (hp2 : p ≤ 1000) (hnp : n ≤ p) :
    Calls Try.prog 11 #[.slice A n ca, .int .i64 p] W fun e w' => e = .returned (.int .i64 (Ring.scan [] ids)) ∧ W = w' := by
  have h2 := hp.1
  have HP := Lib.hid (fun V => jprime_c p (by omega) hp2 V)
  rw [decide_eq_true hp] at HP
  have n0 : ((n : Int) == 0) = false := by simp; omega
  have n1 : ¬ n = 0 := by omega
  have d2 : decide ((16 : Int) < (n : Int)) = false := decide_eq_false (by omega)
  have d3 : decide ((p : Int) < 1) = false := decide_eq_false (by omega)
  have d4 : decide ((1000 : Int) < (p : Int)) = false := decide_eq_false (by omega)
  have d5 : decide ((p : Int) < (n : Int)) = false := decide_eq_false (by omega)
  have HX := Lib.hid hx
  have HN := Lib.hid hn
  clear hx hn hp
  go_enter Try.func11, Try.ntmps11
  go_wp2_with (go_at_call 27; refine (HP.out _).mono ?_; rintro e w' ⟨rfl, rfl⟩)
  clear n0 n1 d2 d3 d4 d5 HP
  go_loopw [34] (fun i wr => ∃ k : Nat, k ≤ n ∧ i = .int .i64 k ∧ Ring.scan [] ids = Ring.scan (ids.take k) (ids.drop k) ∧ wr = W) (fun i _ => n - (intOf i).toNat)
  case atStart => exact ⟨0, by omega, rfl, rfl, rfl⟩
  case round =>
    obtain ⟨k, hk, rfl, hsc, rfl⟩ := hrel
    have HSC := Lib.hid hsc
    clear hsc
    by_cases hlt : k < n
    · have k1 : k < ids.length := by rw [HN.out]; exact hlt
      obtain ⟨b, o, rfl, hbl, x0⟩ := reads_z HX.out k1
      have EX := Lib.hid (show ids[k]? = some ids[k] from List.getElem?_eq_getElem k1)
      obtain ⟨x, hu⟩ : ∃ x, x = ids[k] := ⟨_, rfl⟩
      rw [← hu] at EX x0
      have j1 : (k : Int) < (n : Int) := by omega
      have j2 : (k : Int) ≤ (ca : Int) := by omega
      have j3 : k ≤ ca := by omega
      clear hu k1
      by_cases hr : x < 0 ∨ 1099511627776 < x
      · have E2 := Lib.hid (show Ring.scan (ids.take k) (ids.drop k) = 2 by rw [Ring.scan_step EX.out, if_pos hr])
        by_cases h0 : x < 0
        · have p1 : decide (x < 0) = true := decide_eq_true h0
          clear hr
          go_wp2
          go_ret
          exact ⟨by rw [HSC.out, E2.out]; rfl, rfl⟩
        · have p1 : decide (x < 0) = false := decide_eq_false h0
          have h6 : 1099511627776 < x := by omega
          have p2 : decide (1099511627776 < x) = true := decide_eq_true h6
          clear hr
          go_wp2
          go_ret
          exact ⟨by rw [HSC.out, E2.out]; rfl, rfl⟩
      · have p1 : decide (x < 0) = false := decide_eq_false (by omega)
        have p2 : decide (1099511627776 < x) = false := decide_eq_false (by omega)
        have HR := Lib.hid hr
        clear hr
        go_wp2
        obtain ⟨wo, rfl⟩ : ∃ wo : World, wo = wr := ⟨_, rfl⟩
        go_loopw [49] (fun i wr => ∃ j : Nat, j ≤ k ∧ i = .int .i64 j ∧ (∀ i y, i < j → ids[i]? = some y → x ≠ y) ∧ wr = wo) (fun i _ => k - (intOf i).toNat)
        case atStart => exact ⟨0, by omega, rfl, fun i y hi => absurd hi (by omega), rfl⟩
        case round =>
          obtain ⟨j, hj, rfl, hno, rfl⟩ := hrel
          have NO := Lib.hid hno
          clear hno
          by_cases hlj : j < k
          · have j4 : j < ids.length := by rw [HN.out]; omega
            obtain ⟨b', o', e', _, y0⟩ := reads_z HX.out j4
            injection e' with e'
            injection e' with e1 e2
            subst e1 e2
            have EY := Lib.hid (show ids[j]? = some ids[j] from List.getElem?_eq_getElem j4)
            obtain ⟨y, hv⟩ : ∃ y, y = ids[j] := ⟨_, rfl⟩
            rw [← hv] at EY y0
            have j5 : (j : Int) < (k : Int) := by omega
            clear hv j4
            by_cases hxy : x = y
            · have E2 := Lib.hid (show Ring.scan (ids.take k) (ids.drop k) = 6 by rw [Ring.scan_step EX.out, if_neg HR.out, if_pos (held_out (by rw [HN.out]; omega) hlj EY.out hxy)])
              have q1 : (x == y) = true := by simp [hxy]
              clear hxy
              go_wp2
              go_ret
              exact ⟨by rw [HSC.out, E2.out]; rfl, rfl⟩
            · have q1 : (x == y) = false := by simp [hxy]
              have NX := Lib.hid (show ∀ i z, i < j + 1 → ids[i]? = some z → x ≠ z from fun i z hi hz => by
                rcases (by omega : i < j ∨ i = j) with h | rfl
                · exact NO.out i z h hz
                · rw [EY.out] at hz; injection hz with hz; subst hz; exact hxy)
              clear hxy
              go_wp2
              go_roundw
              case rel => exact ⟨j + 1, by omega, by go_num, NX.out, by trivial⟩
              case measure => simp [intOf]; omega
          · obtain rfl : j = k := by omega
            have E2 := Lib.hid (show Ring.scan (ids.take j) (ids.drop j) = Ring.scan (ids.take (j + 1)) (ids.drop (j + 1)) by rw [Ring.scan_step EX.out, if_neg HR.out, if_neg (held_not NO.out)])
            go_wp2
            go_roundw
            case rel => exact ⟨j + 1, by omega, by go_num, by rw [HSC.out, E2.out], by trivial⟩
            case measure => simp [intOf]; omega
    · obtain rfl : k = n := by omega
      have E2 := Lib.hid (show Ring.scan [] ids = 0 by rw [HSC.out, List.drop_of_length_le (by rw [HN.out]; omega)]; rfl)
      go_wp2
      go_ret
      exact ⟨by rw [E2.out]; rfl, rfl⟩
set_option maxHeartbeats 4000000 in
theorem jwrong_c (A : Option Addr) (ids : List Int) (n ca : Nat) (size : Int) (W : World) (hn : ids.length = n) (hca : n ≤ ca) (hbig : n ≤ maxLen) (hx : Reads W A (ids.map (Value.int .i64))) :
    Calls Try.prog 11 #[.slice A n ca, .int .i64 size] W fun e w' => e = .returned (.int .i64 (tErr ids size)) ∧ W = w' := by
  by_cases hb : BadT n size
  · have h := jwrong_size A n ca size W hbig hb
    unfold tErr
    rw [hn, if_pos hb]; exact h
  have e0 : tErr ids size = if ¬ Prm size.toNat then 1 else if size < ids.length then 8 else Ring.scan [] ids := by unfold tErr; rw [hn, if_neg hb]
  unfold BadT at hb
  obtain ⟨p, rfl⟩ : ∃ p : Nat, size = p := ⟨size.toNat, by omega⟩
  rw [Int.toNat_natCast, hn] at e0
  have HP := Lib.hid (fun V => jprime_c p (by omega) (by omega) V)
  have n0 : ((n : Int) == 0) = false := by simp; omega
  have n1 : ¬ n = 0 := by omega
  have d2 : decide ((16 : Int) < (n : Int)) = false := decide_eq_false (by omega)
  have d3 : decide ((p : Int) < 1) = false := decide_eq_false (by omega)
  have d4 : decide ((1000 : Int) < (p : Int)) = false := decide_eq_false (by omega)
  by_cases hp : Prm p
  · by_cases hs : (p : Int) < (n : Int)
    · have d5 : decide ((p : Int) < (n : Int)) = true := decide_eq_true hs
      have E2 := Lib.hid (show tErr ids p = 8 by rw [e0, if_neg (by simpa using hp), if_pos hs])
      rw [decide_eq_true hp] at HP
      clear hp hb e0 hx hn
      go_enter Try.func11, Try.ntmps11
      go_wp2_with (go_at_call 27; refine (HP.out _).mono ?_; rintro e w' ⟨rfl, rfl⟩)
      go_ret
      exact ⟨by rw [E2.out]; rfl, rfl⟩
    · rw [e0, if_neg (by simpa using hp), if_neg hs]
      exact jwrong_scan A ids n ca p W hn hca (by omega) (by omega) hx hp (by omega) (by omega)
  · have E2 := Lib.hid (show tErr ids p = 1 by rw [e0, if_pos hp])
    rw [decide_eq_false hp] at HP
    clear hp hb e0 hx hn
    go_enter Try.func11, Try.ntmps11
    go_wp2_with (go_at_call 27; refine (HP.out _).mono ?_; rintro e w' ⟨rfl, rfl⟩)
    go_ret
    exact ⟨by rw [E2.out]; rfl, rfl⟩
end Go.Proofs.Ytahhgeecikljdaa.Tb
