/-
  Contracts of package table: prime, wrongIds, Wrong, reduced, preferences.
-/
import Derived.Test.YtahhgeecikljdaaTbMem
import Derived.Test.YtahhgeecikljdaaMix
namespace Go.Proofs.Ytahhgeecikljdaa.Tb
set_option linter.unusedVariables false
set_option linter.unusedSimpArgs false
open Go.RowKit Mem

/-! ### prime -/
def NoDiv (n d : Nat) : Prop := ∀ e, 2 ≤ e → e < d → n % e ≠ 0
theorem noDiv_next {n d : Nat} (h : NoDiv n d) (hd : n % d ≠ 0) : NoDiv n (d + 1) := fun e h1 h2 => by
  rcases (by omega : e < d ∨ e = d) with h3 | rfl
  · exact h e h1 h3
  · exact hd
theorem sq_le {n d : Nat} (h : d * d ≤ n) (h2 : 2 ≤ d) : d < n := by
  have := Nat.mul_le_mul h2 (Nat.le_refl d)
  omega
theorem sq_bound {n d : Nat} (h : d ≤ n ∨ d = 2) (hn : n ≤ 1000) : d * d ≤ 1000000 := Nat.mul_le_mul (show d ≤ 1000 by omega) (show d ≤ 1000 by omega)
set_option maxHeartbeats 2000000 in
theorem prime_c (n : Nat) (h1 : 1 ≤ n) (hn : n ≤ 1000) (W : World) :
    Calls Try.prog 28 #[.int .i64 n] W fun e w' => e = .returned (.bool (decide (Prm n))) ∧ W = w' := by
  go_enter Try.func28, Try.ntmps28
  go_wp2
  go_loop [3] (fun i => ∃ d : Nat, 2 ≤ d ∧ (d ≤ n ∨ d = 2) ∧ i = .int .i64 d ∧ NoDiv n d) (fun i => 1000 - (intOf i).toNat)
  case atStart => exact ⟨2, by omega, by omega, rfl, fun e h2 h3 => by omega⟩
  case round =>
    obtain ⟨d, h2, hd, rfl, hN⟩ := hrel
    have hsb := sq_bound hd hn
    have hm : (d : Int) * (d : Int) = ((d * d : Nat) : Int) := by simp
    have hw : IntKind.i64.wrap ((d * d : Nat) : Int) = ((d * d : Nat) : Int) := IntWalk.i64_in _ (by omega)
    have HT := Lib.hid (fun h => trial (n := n) (d := d) hN h)
    have HS := Lib.hid (fun h => sq_le (n := n) (d := d) h h2)
    have HP := Lib.hid (fun h h' => not_prm (n := n) (d := d) h2 h h')
    have HX := Lib.hid (fun h => noDiv_next hN h)
    have d0 : ((d : Int) == 0) = false := by simp; omega
    have d1 : ¬ d = 0 := by omega
    have md : (n : Int).tmod (d : Int) = ((n % d : Nat) : Int) := by rw [Int.tmod_eq_emod_of_nonneg (by omega), Int.natCast_emod]
    have md2 : (n : Int) % (d : Int) = ((n % d : Nat) : Int) := by rw [Int.natCast_emod]
    have mb : n % d < d := Nat.mod_lt _ (by omega)
    generalize hq : d * d = q at *
    generalize hr : n % d = r at *
    clear hq hN
    by_cases hle : q ≤ n
    · have i1 : (q : Int) ≤ (n : Int) := by omega
      by_cases h0 : r = 0
      · have E := Lib.hid (show decide (Prm n) = false from decide_eq_false (HP.out hle h0))
        subst h0
        clear hr
        go_wp2
        go_ret
        exact ⟨by rw [E.out]; rfl, rfl⟩
      · have E := Lib.hid (HX.out h0)
        have L := Lib.hid (HS.out hle)
        have r0 : ¬ (r : Int) = 0 := by omega
        have r1 : ((r : Int) == 0) = false := by simp; omega
        clear hr h0
        go_wp2
        go_round
        case rel => exact ⟨d + 1, by omega, by have := L.out; omega, by go_num, E.out⟩
        case measure => have := L.out; simp [intOf]; omega
    · have i1 : ¬ (q : Int) ≤ (n : Int) := by omega
      have E : Hid (decide (Prm n) = decide ((1 : Int) < (n : Int))) := by
        show decide (Prm n) = decide ((1 : Int) < (n : Int))
        by_cases h : 2 ≤ n
        · rw [decide_eq_true (HT.out (by omega) h), decide_eq_true (by omega)]
        · rw [decide_eq_false (fun hp => h hp.1), decide_eq_false (by omega)]
      clear hr
      generalize hb : decide ((1 : Int) < (n : Int)) = b at *
      go_wp2
      go_ret
      exact ⟨by rw [E.out]; rfl, rfl⟩

/-! ### reduced -/
theorem reduced_c (h : UInt64) (n : Nat) (h1 : 1 ≤ n) (hn : n ≤ 9223372036854775807) (W : World) :
    Calls Try.prog 25 #[.int .u64 h.toNat, .int .i64 n] W fun e w' => e = .returned (.int .i64 ((h.toNat % n : Nat) : Int)) ∧ W = w' := by
  have w1 : IntKind.u64.wrap (n : Int) = n := by rw [IntKind.wrap_u64]; omega
  have w2 : (n : Int) % 18446744073709551616 = n := by omega
  have md : (h.toNat : Int).tmod (n : Int) = ((h.toNat % n : Nat) : Int) := by rw [Int.tmod_eq_emod_of_nonneg (by omega), Int.natCast_emod]
  have md2 : (h.toNat : Int) % (n : Int) = ((h.toNat % n : Nat) : Int) := by rw [Int.natCast_emod]
  have mb : h.toNat % n < n := Nat.mod_lt _ (by omega)
  have d0 : ((n : Int) == 0) = false := by simp; omega
  have d1 : ¬ n = 0 := by omega
  generalize h.toNat % n = r at *
  have w3 : IntKind.i64.wrap (r : Int) = r := IntWalk.i64_in _ (by omega)
  go_enter Try.func25, Try.ntmps25
  go_wp2
  go_ret
  exact ⟨rfl, rfl⟩

/-! ### wrongIds -/
theorem scan_range {ids : List Int} {k : Nat} {x : Int} (hx : ids[k]? = some x) (h : x < 0 ∨ 1099511627776 < x) : Ring.scan (ids.take k) (ids.drop k) = 2 := by rw [Ring.scan_step hx, if_pos h]
theorem scan_held {ids : List Int} {k : Nat} {x : Int} (hx : ids[k]? = some x) (h : ¬ (x < 0 ∨ 1099511627776 < x)) (h2 : x ∈ ids.take k) : Ring.scan (ids.take k) (ids.drop k) = 6 := by rw [Ring.scan_step hx, if_neg h, if_pos h2]
theorem scan_next {ids : List Int} {k : Nat} {x : Int} (hx : ids[k]? = some x) (h : ¬ (x < 0 ∨ 1099511627776 < x)) (h2 : x ∉ ids.take k) : Ring.scan (ids.take k) (ids.drop k) = Ring.scan (ids.take (k + 1)) (ids.drop (k + 1)) := by rw [Ring.scan_step hx, if_neg h, if_neg h2]
theorem take_mem {ids : List Int} {k : Nat} {x : Int} {S : List Int} (hx : ids[k]? = some x) (h : ∀ y, y ∈ S ↔ y ∈ ids.take k) : ∀ y, y ∈ x :: S ↔ y ∈ ids.take (k + 1) := fun y => by
  rw [List.take_add_one, hx, List.mem_cons, h y, List.mem_append]; simp [or_comm]
def ScanAt (W : World) (ids : List Int) (g k : Nat) (wr : World) : Prop :=
  ∃ S : List Int, Ring.scan [] ids = Ring.scan (ids.take k) (ids.drop k) ∧ IntSet wr g S ∧ S.length = k ∧ (∀ y, y ∈ S ↔ y ∈ ids.take k) ∧ Below W.heap.size W wr
set_option maxRecDepth 100000 in
set_option maxHeartbeats 4000000 in
theorem wrongIds_c (A : Option Addr) (ids : List Int) (n ca : Nat) (W : World) (hn : ids.length = n) (h16 : n ≤ 16) (hx : Reads W A (ids.map (Value.int .i64))) (hwf : ∀ x ∈ ids, (Lit.int .i64 x).wf = true) :
    Calls Try.prog 29 #[.slice A n ca] W (Gave (.int .i64 (Ring.scan [] ids)) W) := by
  have HX := Lib.hid hx
  have HN := Lib.hid hn
  have HW := Lib.hid hwf
  have hmm := @run_makeMap Try.prog
  clear hx hn hwf
  go_enter Try.func29, Try.ntmps29
  go_wp2
  have IS0 := Lib.hid (IntSet.made W)
  have B0 := Lib.hid ((Below.refl W.heap.size W).alloc (Nat.le_refl _) (.map #[] 0))
  clear hmm
  go_loopw [9] (fun i wr => ∃ k : Nat, k ≤ n ∧ i = .int .i64 k ∧ ScanAt W ids W.heap.size k wr) (fun i _ => n - (intOf i).toNat)
  case atStart => exact ⟨0, by omega, rfl, [], rfl, IS0.out, rfl, fun x => by simp, B0.out⟩
  case round =>
    obtain ⟨k, hk, rfl, S, hsc, hS, hSl, hSm, hB⟩ := hrel
    have HSC := Lib.hid hsc
    have IS := Lib.hid hS
    have SL := Lib.hid hSl
    have SM := Lib.hid hSm
    have HB := Lib.hid hB
    clear IS0 B0 hsc hSl hSm hS
    by_cases hlt : k < n
    · have k1 : k < ids.length := by rw [HN.out]; exact hlt
      obtain ⟨b, o, rfl, hbl, x0⟩ := reads_z HX.out k1
      have x1 := (hB.cell (p := ⟨b, o + k, none⟩) hbl).trans x0
      have EX := Lib.hid (show ids[k]? = some ids[k] from List.getElem?_eq_getElem k1)
      have WX := Lib.hid (HW.out ids[k] (List.getElem_mem k1))
      generalize hu : ids[k] = x at *
      have j1 : (k : Int) < (n : Int) := by omega
      clear hu k1 x0 hB
      by_cases hr : x < 0 ∨ 1099511627776 < x
      · have E2 := Lib.hid (scan_range EX.out hr)
        by_cases h0 : x < 0
        · have p1 : decide (x < 0) = true := decide_eq_true h0
          clear hr
          go_wp2
          go_ret
          exact ⟨by rw [HSC.out, E2.out]; rfl, HB.out⟩
        · have p1 : decide (x < 0) = false := decide_eq_false h0
          have h6 : 1099511627776 < x := by omega
          have p2 : decide (1099511627776 < x) = true := decide_eq_true h6
          clear hr
          go_wp2
          go_ret
          exact ⟨by rw [HSC.out, E2.out]; rfl, HB.out⟩
      · have p1 : decide (x < 0) = false := decide_eq_false (by omega)
        have p2 : decide (1099511627776 < x) = false := decide_eq_false (by omega)
        by_cases hin : x ∈ ids.take k
        · have E2 := Lib.hid (scan_held EX.out hr hin)
          have HC := Lib.hid (show decide (x ∈ S) = true from decide_eq_true ((SM.out x).2 hin))
          clear hr hin
          go_wp2_with (refine wpList_lookup_set rfl _ _ (by rfl) IS.out x WX.out rfl rfl true HC.out ?_)
          go_ret
          exact ⟨by rw [HSC.out, E2.out]; rfl, HB.out⟩
        · have E2 := Lib.hid (scan_next EX.out hr hin)
          have HC := Lib.hid (show decide (x ∈ S) = false from decide_eq_false (fun h => hin ((SM.out x).1 h)))
          have SS := Lib.hid (show S.length < maxLen by rw [SL.out]; unfold maxLen; omega)
          have SM2 := Lib.hid (take_mem EX.out SM.out)
          clear hr hin
          go_wp2_with (first | (refine wpList_lookup_set rfl _ _ (by rfl) IS.out x WX.out rfl rfl false HC.out ?_) | (refine wpList_update_set rfl _ _ _ (by rfl) IS.out SS.out x WX.out rfl rfl rfl ?_; intro V hS hG; have IS2 := Lib.hid hS; have B2 := Lib.hid (HB.out.grown hG HB.out.size (fun k hk => by injection hk with hk; subst hk; exact Nat.le_refl _)); clear hS hG))
          go_roundw
          case rel => exact ⟨k + 1, by omega, by go_num, x :: S, by rw [HSC.out, E2.out], IS2.out, by simp [SL.out], SM2.out, B2.out⟩
          case measure => simp [intOf]; omega
    · obtain rfl : k = n := by omega
      have E2 := Lib.hid (show Ring.scan [] ids = 0 by rw [HSC.out, List.drop_of_length_le (by rw [HN.out]; omega)]; rfl)
      clear hB
      go_wp2
      go_ret
      exact ⟨by rw [E2.out]; rfl, HB.out⟩
end Go.Proofs.Ytahhgeecikljdaa.Tb
