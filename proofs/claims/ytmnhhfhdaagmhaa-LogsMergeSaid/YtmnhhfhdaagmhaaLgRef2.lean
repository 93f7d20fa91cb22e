/-
  The document's own answers of package logs: OCommon, OBest.
-/
import Derived.Test.YtmnhhfhdaagmhaaLgRef
import Derived.Test.YtmnhhfhdaagmhaaLgEq
import Derived.Lib.QuietBelow
namespace Go.Proofs.Ytmnhhfhdaagmhaa.Lg
set_option linter.unusedVariables false
set_option linter.unusedSimpArgs false
open Go.RowKit Mem Gt
open Jump (Gave equalZ_c)

theorem take_none {a b : List En} {k : Nat} {x y : En} (hx : a[k]? = some x) (hy : b[k]? = some y) (h : x ≠ y) : ¬ a.take (k + 1) = b.take (k + 1) := fun e => by
  have := congrArg (fun l => l[k]?) e
  simp only [List.getElem?_take_of_lt (show k < k + 1 by omega)] at this
  rw [hx, hy] at this
  exact h (by injection this)
theorem take_less {a b : List En} {k m : Nat} (h : a.take m = b.take m) (hk : k ≤ m) : a.take k = b.take k := by
  have := congrArg (List.take k) h
  rwa [List.take_take, List.take_take, Nat.min_eq_left hk] at this
set_option maxRecDepth 100000 in
set_option maxHeartbeats 8000000 in
theorem ocommon_c (A B : Option Addr) (a b : List En) (n m ca cb : Nat) (V : World) (hn : a.length = n) (hm : b.length = m) (hb1 : n ≤ 140737488355328) (hb2 : m ≤ 140737488355328) (hx : Reads V A (flat enE a)) (hy : Reads V B (flat enE b)) :
    Calls Try.prog 17 #[.slice A n ca, .slice B m cb] V (Gave (.int .i64 (com a b : Nat)) V) := by
  have HX := Lib.hid hx
  have HY := Lib.hid hy
  have HN := Lib.hid hn
  have HM := Lib.hid hm
  obtain ⟨q, hq⟩ : ∃ q : Nat, q = min n m := ⟨_, rfl⟩
  have hmin : min (n : Int) (m : Int) = (q : Int) := by omega
  have q1 : q ≤ n := by omega
  have q2 : q ≤ m := by omega
  have CQ := Lib.hid (show com a b ≤ q by have := com_le a b; omega)
  clear hx hy hn hm hq
  go_enter Try.func17, Try.ntmps17
  go_wp2_with fail
  go_loopw [5] (fun i wr => ∃ p : Nat, p ≤ q ∧ i = .int .i64 p ∧ com a b ≤ p ∧ Below V.heap.size V wr) (fun i _ => (intOf i).toNat)
  case atStart => exact ⟨q, Nat.le_refl _, rfl, CQ.out, Below.refl _ _⟩
  case round =>
    obtain ⟨p, hp, rfl, hc, hB⟩ := hrel
    obtain ⟨wo, rfl⟩ : ∃ wo : World, wo = wr := ⟨_, rfl⟩
    have CC := Lib.hid hc
    have BB := Lib.hid hB
    clear hc hB CQ
    by_cases h0 : 0 < p
    · have i0 : (0 : Int) < (p : Int) := by omega
      go_wp2_with fail
      go_loopw [6, 18] (fun f i wr => ∃ (k : Nat) (c : Bool), k ≤ p ∧ i = .int .i64 k ∧ f = .bool c ∧ c = decide (a.take k = b.take k) ∧ Below V.heap.size V wr) (fun _ i _ => p - (intOf i).toNat)
      case atStart => exact ⟨0, true, by omega, rfl, rfl, by simp, BB.out⟩
      case round =>
        obtain ⟨k, c, hk, rfl, rfl, hc, hB⟩ := hrel
        have HC := Lib.hid hc
        have B2 := Lib.hid hB
        by_cases hlt : k < p
        · have kx : k < a.length := by rw [HN.out]; omega
          have ky : k < b.length := by rw [HM.out]; omega
          obtain ⟨⟨u0, u1, u2⟩, ex⟩ : ∃ u, a[k]? = some u := ⟨_, List.getElem?_eq_getElem kx⟩
          obtain ⟨⟨v0, v1, v2⟩, ey⟩ : ∃ u, b[k]? = some u := ⟨_, List.getElem?_eq_getElem ky⟩
          obtain ⟨b1, o1, rfl, _, x0, x1, x2⟩ := en_at (HX.out.below hB) ex
          obtain ⟨b2, o2, rfl, _, y0, y1, y2⟩ := en_at (HY.out.below hB) ey
          have i1 : (k : Int) < (p : Int) := by omega
          have i2 : (k : Int) < (n : Int) := by omega
          have i3 : (k : Int) < (m : Int) := by omega
          have ne := fun w => eql_en u0 u1 u2 v0 v1 v2 w
          have gd := fun op x y w => guard_en op x y #[.int .i64 u0, .int .i64 u1, .int .i64 u2] #[.int .i64 v0, .int .i64 v1, .int .i64 v2] w
          have EX := Lib.hid ex
          have EY := Lib.hid ey
          clear kx ky ex ey hc hB
          cases c with
          | false =>
            have E := Lib.hid (show false = decide (a.take (k + 1) = b.take (k + 1)) by
              symm
              exact decide_eq_false (fun e => by have := HC.out; rw [decide_eq_true (take_less e (by omega))] at this; cases this))
            go_upto_region 8 with fail
            go_quiet (fail)
            go_wp2
            go_roundw
            case rel => exact ⟨k + 1, false, by omega, by go_num, rfl, E.out, Mem.below_drewN B2.out _⟩
            case measure => simp [intOf]; omega
          | true =>
            by_cases e : (u0, u1, u2) = (v0, v1, v2)
            · have eb : ((u0 : Int) == v0 && (u1 : Int) == v1 && (u2 : Int) == v2) = true := by
                injection e with e1 e2; injection e2 with e2 e3; subst e1 e2 e3; simp
              have E := Lib.hid (show true = decide (a.take (k + 1) = b.take (k + 1)) by
                symm
                exact decide_eq_true (eq_take (of_decide_eq_true HC.out.symm) EX.out (by rw [e]; exact EY.out)))
              rw [eb] at ne
              clear e eb
              go_upto_region 8 with fail
              go_quiet (fail)
              go_wp2
              go_roundw
              case rel => exact ⟨k + 1, true, by omega, by go_num, rfl, E.out, Mem.below_drewN B2.out _⟩
              case measure => simp [intOf]; omega
            · have eb : ((u0 : Int) == v0 && (u1 : Int) == v1 && (u2 : Int) == v2) = false := by
                cases h : ((u0 : Int) == v0 && (u1 : Int) == v1 && (u2 : Int) == v2) with
                | false => rfl
                | true =>
                  simp only [Bool.and_eq_true, beq_iff_eq] at h
                  exact absurd (by rw [h.1.1, h.1.2, h.2]) e
              have E := Lib.hid (show false = decide (a.take (k + 1) = b.take (k + 1)) by
                symm
                exact decide_eq_false (take_none EX.out EY.out e))
              rw [eb] at ne
              clear e eb
              go_upto_region 8 with fail
              go_quiet (fail)
              go_wp2
              go_roundw
              case rel => exact ⟨k + 1, false, by omega, by go_num, rfl, E.out, Mem.below_drewN B2.out _⟩
              case measure => simp [intOf]; omega
        · obtain rfl : k = p := by omega
          clear hc hB
          cases c with
          | true =>
            have E := Lib.hid (show k = com a b from Nat.le_antisymm (com_max a b k (by rw [HN.out]; omega) (by rw [HM.out]; omega) (of_decide_eq_true HC.out.symm)) CC.out)
            go_wp2
            rw [← E.out]
            go_ret
            exact ⟨rfl, B2.out⟩
          | false =>
            have E := Lib.hid (show com a b ≤ k - 1 by
              rcases Nat.lt_or_ge (com a b) k with h | h
              · omega
              · have hk' : com a b = k := Nat.le_antisymm CC.out h
                have := com_take a b
                rw [hk'] at this
                have h2 := HC.out
                rw [decide_eq_true this] at h2
                cases h2)
            go_wp2
            go_roundw
            case rel => exact ⟨k - 1, by omega, by rw [show ((k - 1 : Nat) : Int) = (k : Int) - 1 by omega], E.out, B2.out⟩
            case measure => simp [intOf]; omega
    · obtain rfl : p = 0 := by omega
      have E := Lib.hid (show com a b = 0 by have := CC.out; omega)
      go_wp2
      rw [E.out]
      go_ret
      exact ⟨rfl, BB.out⟩
end Go.Proofs.Ytmnhhfhdaagmhaa.Lg
