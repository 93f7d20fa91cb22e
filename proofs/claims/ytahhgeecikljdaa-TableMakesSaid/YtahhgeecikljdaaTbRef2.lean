/-
  The document's own answers on tables: JLike, JMake.
-/
import Derived.Test.YtahhgeecikljdaaTbRef
import Derived.Test.YtahhgeecikljdaaTbE
namespace Go.Proofs.Ytahhgeecikljdaa.Tb
set_option linter.unusedVariables false
set_option linter.unusedSimpArgs false
open Go.RowKit Mem

/-! ### JLike -/
set_option maxHeartbeats 2000000 in
theorem two_core (a b o1 s o2 : UInt64) (W : World) (H1 : Hid (∀ V, Calls Try.prog 16 #[.int .u64 a.toNat] V (Gave (.int .u64 o1.toNat) V)))
    (H2 : Hid (∀ V, Calls Try.prog 16 #[.int .u64 s.toNat] V (Gave (.int .u64 o2.toNat) V)))
    (w1 : IntKind.u64.wrap ((o1.toNat : Int) + (b.toNat : Int)) = (s.toNat : Int)) (w2 : ((o1.toNat : Int) + (b.toNat : Int)) % 18446744073709551616 = (s.toNat : Int)) :
    Calls Try.prog 30 #[.int .u64 a.toNat, .int .u64 b.toNat] W (Gave (.int .u64 o2.toNat) W) := by
  go_enter Try.func30, Try.ntmps30
  go_wp2_with fail
  refine (H1.out _).mono ?_
  rintro e w1 ⟨rfl, hb1⟩
  have B1 := Lib.hid hb1
  clear hb1
  go_wp2_with fail
  refine (H2.out _).mono ?_
  rintro e w2 ⟨rfl, hb2⟩
  have B2 := Lib.hid (B1.out.trans (hb2.mono B1.out.size))
  clear hb2 B1
  go_wp2
  go_ret
  exact ⟨rfl, B2.out⟩
theorem two_ref (a b : UInt64) (W : World) : Calls Try.prog 30 #[.int .u64 a.toNat, .int .u64 b.toNat] W (Gave (.int .u64 (Mix.two a b).toNat) W) :=
  two_core a b (Mix.one a) (Words.add (Mix.one a) b) (Mix.two a b) W (fun V => Big.aOne_c a V) (fun V => Big.aOne_c (Words.add (Mix.one a) b) V) (Words.add64 _ _) (Words.add64m _ _)
theorem ref_i0 (x : Int) (h0 : 0 ≤ x) (h1 : x ≤ 1099511627776) (V : World) :
    Calls Try.prog 30 #[.int .u64 0, .int .u64 x] V (Gave (.int .u64 (hA x).toNat) V) := by
  have h := two_ref 0 (UInt64.ofNat x.toNat) V
  have e1 : ((UInt64.ofNat x.toNat).toNat : Int) = x := by rw [UInt64.toNat_ofNat', Nat.mod_eq_of_lt (by omega)]; omega
  rw [e1] at h
  exact h
theorem ref_i1 (x : Int) (h0 : 0 ≤ x) (h1 : x ≤ 1099511627776) (V : World) :
    Calls Try.prog 30 #[.int .u64 1, .int .u64 x] V (Gave (.int .u64 (hB x).toNat) V) := by
  have h := two_ref 1 (UInt64.ofNat x.toNat) V
  have e1 : ((UInt64.ofNat x.toNat).toNat : Int) = x := by rw [UInt64.toNat_ofNat', Nat.mod_eq_of_lt (by omega)]; omega
  rw [e1] at h
  exact h
theorem mod_once {m p : Nat} (h : m < 2 * p) : m % p = if p ≤ m then m - p else m := by
  split
  · rename_i h1
    rw [Nat.mod_eq_sub_mod h1, Nat.mod_eq_of_lt (by omega)]
  · rename_i h1
    exact Nat.mod_eq_of_lt (by omega)
set_option maxRecDepth 100000 in
set_option maxHeartbeats 8000000 in
theorem jlike_core (x : Int) (p k s d q : Nat) (ax bx : UInt64) (W : World) (h0 : 0 ≤ x) (h1 : x ≤ 1099511627776) (hp : 2 ≤ p) (hb : p ≤ 1000) (hk : k ≤ 1000) (hs : s < p) (hq : q < p - 1) (hd : d = q + 1)
    (T0 : Hid (∀ V, Calls Try.prog 30 #[.int .u64 0, .int .u64 x] V (Gave (.int .u64 ax.toNat) V)))
    (T1 : Hid (∀ V, Calls Try.prog 30 #[.int .u64 1, .int .u64 x] V (Gave (.int .u64 bx.toNat) V)))
    (M0 : (ax.toNat : Int) % (p : Int) = (s : Int)) (M0' : (ax.toNat : Int).tmod (p : Int) = (s : Int)) (M1 : (bx.toNat : Int) % ((p : Int) - 1) = (q : Int)) (M1' : (bx.toNat : Int).tmod ((p : Int) - 1) = (q : Int)) :
    Calls Try.prog 13 #[.int .i64 x, .int .i64 p, .int .i64 k] W (Gave (.int .i64 (pos s d p k : Nat)) W) := by
  have wx : IntKind.u64.wrap x = x := by rw [IntKind.wrap_u64]; omega
  have wx2 : x % 18446744073709551616 = x := by omega
  have wp : IntKind.u64.wrap (p : Int) = p := by rw [IntKind.wrap_u64]; omega
  have wp2 : (p : Int) % 18446744073709551616 = p := by omega
  have wq : IntKind.i64.wrap ((p : Int) - 1) = (p : Int) - 1 := IntWalk.i64_in _ (by omega)
  have wq2 : IntKind.u64.wrap ((p : Int) - 1) = (p : Int) - 1 := by rw [IntKind.wrap_u64]; omega
  have wq3 : ((p : Int) - 1) % 18446744073709551616 = (p : Int) - 1 := by omega
  have wd : IntKind.u64.wrap (1 + (q : Int)) = (d : Int) := by rw [IntKind.wrap_u64]; omega
  have wd2 : (1 + (q : Int)) % 18446744073709551616 = (d : Int) := by omega
  have d0 : ((p : Int) == 0) = false := by simp; omega
  have d1 : ¬ p = 0 := by omega
  have d2 : (((p : Int) - 1) == 0) = false := by simp; omega
  have d3 : ¬ (p : Int) - 1 = 0 := by omega
  have PZ := Lib.hid (pos_zero (a := s) (s := d) hs)
  have PS := Lib.hid (fun k => pos_succ s d p k)
  have PL := Lib.hid (fun k => pos_lt (a := s) (s := d) (show 0 < p by omega) k)
  have hdp : d < p := by omega
  have HD := Lib.hid hd
  clear hd
  by_cases h2 : p = 2
  · obtain rfl : d = 1 := by have := HD.out; omega
    have f1 : decide ((2 : Int) < (p : Int)) = false := decide_eq_false (by omega)
    have f2 : ¬ (2 : Int) < (p : Int) := by omega
    have f3 : ¬ 2 < p := by omega
    clear T1 M1 M1' h2
    go_enter Try.func13, Try.ntmps13
    go_wp2_with fail
    refine (T0.out _).mono ?_
    rintro e w1 ⟨rfl, hb1⟩
    have BB := Lib.hid hb1
    clear hb1 T0
    go_wp2_with fail
    go_loop [8, 30] (fun v i => ∃ j : Nat, j ≤ k ∧ i = .int .i64 j ∧ v = .int .u64 (pos s 1 p j)) (fun _ i => k - (intOf i).toNat)
    case atStart => exact ⟨0, by omega, rfl, by rw [PZ.out]⟩
    case round =>
      obtain ⟨j, hj, rfl, rfl⟩ := hrel
      have NX := Lib.hid (PS.out j)
      have hz := PL.out j
      obtain ⟨z, ez⟩ : ∃ z, z = pos s 1 p j := ⟨_, rfl⟩
      rw [← ez] at NX hz ⊢
      by_cases hlt : j < k
      · have j1 : (j : Int) < (k : Int) := by omega
        have w4 : IntKind.u64.wrap ((z : Int) + (1 : Int)) = (z : Int) + (1 : Int) := by rw [IntKind.wrap_u64]; omega
        have w5 : ((z : Int) + (1 : Int)) % 18446744073709551616 = (z : Int) + (1 : Int) := by omega
        by_cases hge : p ≤ z + 1
        · have E2 := Lib.hid (show pos s 1 p (j + 1) = z + 1 - p by rw [NX.out, mod_once (by omega), if_pos hge])
          have g1 : (p : Int) ≤ (z : Int) + (1 : Int) := by omega
          have w6 : IntKind.u64.wrap ((z : Int) + (1 : Int) - (p : Int)) = ((z + 1 - p : Nat) : Int) := by rw [IntKind.wrap_u64]; omega
          have w7 : ((z : Int) + (1 : Int) - (p : Int)) % 18446744073709551616 = ((z + 1 - p : Nat) : Int) := by omega
          clear ez
          go_wp2
          go_round
          case rel => exact ⟨j + 1, by omega, by go_num, by rw [E2.out]⟩
          case measure => simp [intOf]; omega
        · have E2 := Lib.hid (show pos s 1 p (j + 1) = z + 1 by rw [NX.out, mod_once (by omega), if_neg hge])
          have g1 : ¬ (p : Int) ≤ (z : Int) + (1 : Int) := by omega
          clear ez
          go_wp2
          go_round
          case rel => exact ⟨j + 1, by omega, by go_num, by rw [E2.out]; congr 1⟩
          case measure => simp [intOf]; omega
      · obtain rfl : j = k := by omega
        have w8 : IntKind.i64.wrap (z : Int) = z := IntWalk.i64_in _ (by omega)
        have EZ := Lib.hid ez
        clear ez
        go_wp2
        go_ret
        exact ⟨by rw [← EZ.out]; rfl, BB.out⟩
  · have i2 : (2 : Int) < (p : Int) := by omega
    have i3 : 2 < p := by omega
    go_enter Try.func13, Try.ntmps13
    go_wp2_with fail
    refine (T0.out _).mono ?_
    rintro e w1 ⟨rfl, hb1⟩
    have B1 := Lib.hid hb1
    clear hb1 T0
    go_wp2_with fail
    refine (T1.out _).mono ?_
    rintro e w2 ⟨rfl, hb2⟩
    have BB := Lib.hid (B1.out.trans (hb2.mono B1.out.size))
    clear hb2 T1 B1
    go_wp2_with fail
    go_loop [8, 30] (fun v i => ∃ j : Nat, j ≤ k ∧ i = .int .i64 j ∧ v = .int .u64 (pos s d p j)) (fun _ i => k - (intOf i).toNat)
    case atStart => exact ⟨0, by omega, rfl, by rw [PZ.out]⟩
    case round =>
      obtain ⟨j, hj, rfl, rfl⟩ := hrel
      have NX := Lib.hid (PS.out j)
      have hz := PL.out j
      obtain ⟨z, ez⟩ : ∃ z, z = pos s d p j := ⟨_, rfl⟩
      rw [← ez] at NX hz ⊢
      by_cases hlt : j < k
      · have j1 : (j : Int) < (k : Int) := by omega
        have w4 : IntKind.u64.wrap ((z : Int) + (d : Int)) = (z : Int) + (d : Int) := by rw [IntKind.wrap_u64]; omega
        have w5 : ((z : Int) + (d : Int)) % 18446744073709551616 = (z : Int) + (d : Int) := by omega
        by_cases hge : p ≤ z + d
        · have E2 := Lib.hid (show pos s d p (j + 1) = z + d - p by rw [NX.out, mod_once (by omega), if_pos hge])
          have g1 : (p : Int) ≤ (z : Int) + (d : Int) := by omega
          have w6 : IntKind.u64.wrap ((z : Int) + (d : Int) - (p : Int)) = ((z + d - p : Nat) : Int) := by rw [IntKind.wrap_u64]; omega
          have w7 : ((z : Int) + (d : Int) - (p : Int)) % 18446744073709551616 = ((z + d - p : Nat) : Int) := by omega
          clear ez
          go_wp2
          go_round
          case rel => exact ⟨j + 1, by omega, by go_num, by rw [E2.out]⟩
          case measure => simp [intOf]; omega
        · have E2 := Lib.hid (show pos s d p (j + 1) = z + d by rw [NX.out, mod_once (by omega), if_neg hge])
          have g1 : ¬ (p : Int) ≤ (z : Int) + (d : Int) := by omega
          clear ez
          go_wp2
          go_round
          case rel => exact ⟨j + 1, by omega, by go_num, by rw [E2.out]; congr 1⟩
          case measure => simp [intOf]; omega
      · obtain rfl : j = k := by omega
        have w8 : IntKind.i64.wrap (z : Int) = z := IntWalk.i64_in _ (by omega)
        have EZ := Lib.hid ez
        clear ez
        go_wp2
        go_ret
        exact ⟨by rw [← EZ.out]; rfl, BB.out⟩
theorem jlike_c (x : Int) (p k : Nat) (W : World) (h0 : 0 ≤ x) (h1 : x ≤ 1099511627776) (hp : 2 ≤ p) (hb : p ≤ 1000) (hk : k ≤ 1000) :
    Calls Try.prog 13 #[.int .i64 x, .int .i64 p, .int .i64 k] W (Gave (.int .i64 (pos (st x p) (sp x p) p k : Nat)) W) :=
  jlike_core x p k (st x p) (sp x p) ((hB x).toNat % (p - 1)) (hA x) (hB x) W h0 h1 hp hb hk (Nat.mod_lt _ (by omega)) (Nat.mod_lt _ (by omega)) rfl (fun V => ref_i0 x h0 h1 V) (fun V => ref_i1 x h0 h1 V)
    (by rw [← Int.natCast_emod]; rfl) (by rw [Int.tmod_eq_emod_of_nonneg (by omega), ← Int.natCast_emod]; rfl)
    (by rw [show (p : Int) - 1 = ((p - 1 : Nat) : Int) by omega, ← Int.natCast_emod]) (by rw [Int.tmod_eq_emod_of_nonneg (by omega), show (p : Int) - 1 = ((p - 1 : Nat) : Int) by omega, ← Int.natCast_emod])
end Go.Proofs.Ytahhgeecikljdaa.Tb
