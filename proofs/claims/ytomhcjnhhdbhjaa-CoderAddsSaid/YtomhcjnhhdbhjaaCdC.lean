/-
  Package coder: productsOf, addMultiple.
-/
import Derived.Test.YtomhcjnhhdbhjaaCdB
import Derived.Test.YtomhcjnhhdbhjaaOwnT
namespace Go.Proofs.Ytomhcjnhhdbhjaa.Cdr
set_option linter.unusedVariables false
open Go.RowKit Gf Mem Poly
attribute [local go_sem] xor8_nat

theorem size256 : (Try.prog.info? 72).map (·.size) = some 256 := by kernel_rfl
theorem ofNat_cast {m : Nat} (h : m < 256) : (m : Int) = ((UInt8.ofNat m).toNat : Int) := by
  rw [UInt8.toNat_ofNat', Nat.mod_eq_of_lt (by omega)]
theorem prodsCells (f : UInt8) (n : Nat) : (((prods f n).map byt).toArray).size = 256 := by simp [prods_len]
def Products (f : UInt8) (W : World) (e : Ending) (W' : World) : Prop := e = .returned (.agg ((prods f 256).map byt).toArray) ∧ Below W.heap.size W W'
theorem xor8_eq (a b : UInt8) : xor8 a b = a ^^^ b := rfl
theorem pow_lt8 : ∀ j : Nat, j ≤ 8 → (2 ^ j < 256 → j < 8) := by decide +kernel
set_option maxHeartbeats 4000000 in
set_option maxRecDepth 100000 in
theorem productsOf_c (f : UInt8) (W : World) : Calls Try.prog 42 #[.int .u8 f.toNat] W (Products f W) := by
  go_enter Try.func42, Try.ntmps42
  have hz : ∀ w : World, (zeroValue 72).run Try.prog w = .ok (.agg (Array.replicate 256 (.int .u8 0))) w := fun _ => by kernel_rfl
  go_wp2
  go_loopw [4] (fun b wr => ∃ (j m : Nat), j ≤ 8 ∧ m = 2 ^ j ∧ b = .int .i64 m ∧ Known wr W.heap.size 72 (Array.replicate 256 (.int .u8 0)) ∧ OwnT wr (W.heap.size + 1) 72 (prods f m) ∧ Below W.heap.size W wr) (fun b _ => 256 - (intOf b).toNat)
  case atStart =>
    refine ⟨0, 1, by omega, rfl, rfl, (Known.made W _ _).alloc _, ?_, ((Below.refl _ _).alloc (Nat.le_refl _) _).alloc (by simp) _⟩
    rw [prods_one]
    have h := own_zero (W.alloc (.cells (Array.replicate 256 (.int .u8 0)) 72)) 72 256
    simpa using h
  case round =>
    obtain ⟨j, m, hj, hm, rfl, hK, hO, hB⟩ := hrel
    have HK := Lib.hid hK
    have HO := Lib.hid hO
    have HB := Lib.hid hB
    clear hK hO hB hz
    by_cases hlt : m < 256
    · have hj8 : j < 8 := pow_lt8 j hj (by rw [← hm]; exact hlt)
      have hm1 : 1 ≤ m := by rw [hm]; exact Nat.one_le_two_pow
      have hm2 : 2 * m ≤ 256 := by
        have : 2 ^ (j + 1) ≤ 2 ^ 8 := Nat.pow_le_pow_right (by omega) (by omega)
        rw [Nat.pow_succ, ← hm] at this; omega
      have HMJ := Lib.hid hm
      have hcv := ofNat_cast hlt
      have hmul := fun w => mul_c f (UInt8.ofNat m) w
      rw [← hcv] at hmul
      have HMUL := Lib.hid hmul
      clear hmul hcv hm
      go_wp2_with fail
      refine (HMUL.out _).mono ?_
      rintro e w' ⟨rfl, rfl⟩
      go_wp2
      obtain ⟨wo, hwo⟩ : ∃ wo : World, wo = wr := ⟨_, rfl⟩
      go_loopw [16] (fun i wr => ∃ (k : Nat), k ≤ m ∧ i = .int .i64 k ∧ Known wr W.heap.size 72 (Array.replicate 256 (.int .u8 0)) ∧ OwnT wr (W.heap.size + 1) 72 (prods f (m + k)) ∧ Below W.heap.size W wr) (fun i _ => m - (intOf i).toNat)
      case atStart => exact ⟨0, by omega, rfl, HK.out, HO.out, HB.out⟩
      case round =>
        clear hwo
        obtain ⟨k, hk, rfl, hK, hO, hB⟩ := hrel
        have HK2 := Lib.hid hK
        have HO2 := Lib.hid hO
        have HB2 := Lib.hid hB
        clear hK hO hB
        by_cases hlk : k < m
        · have ck := HO2.out.at_ (k := k) (prods_at f (m + k) (by omega))
          rw [if_pos (by omega)] at ck
          have cm := HO2.out.at_ (k := m + k) (prods_at f (m + k) (by omega))
          rw [if_neg (by omega)] at cm
          have fm := HO2.out.free (m + k)
          have NX := Lib.hid (prods_next f (n := m + k) (by omega))
          have PB := Lib.hid (prods_bit f hj8 (i := k) (by rw [← HMJ.out]; exact hlk))
          go_wp2
          go_roundw
          case rel => exact ⟨k + 1, by omega, by go_num, HK2.out.off (by simp) _, by
            rw [← Nat.add_assoc, ← NX.out]
            have h := HO2.out.put (m + k) (xor8 (mul f (UInt8.ofNat k)) (mul f (UInt8.ofNat m)))
            have e : xor8 (mul f (UInt8.ofNat k)) (mul f (UInt8.ofNat m)) = mul f (UInt8.ofNat (m + k)) := by
              have := PB.out
              rw [← HMJ.out] at this
              exact this
            rw [← e]; exact h, HB2.out.setCell (Nat.le_succ _) _⟩
          case measure => simp [intOf]; omega
        · obtain rfl : k = m := by omega
          go_wp2
          go_roundw
          case rel => exact ⟨j + 1, k * 2, by omega, by rw [HMJ.out, Nat.pow_succ], by go_num, HK2.out, by rw [Nat.mul_two]; exact HO2.out, HB2.out⟩
          case measure => simp [intOf]; omega
    · have h8 : j = 8 := by
        rcases Nat.lt_or_ge j 8 with h | h
        · have : 2 ^ j ≤ 2 ^ 7 := Nat.pow_le_pow_right (by omega) (by omega)
          rw [← hm] at this; omega
        · omega
      subst h8
      have hm3 : m = 256 := hm
      subst hm3
      clear hm
      go_wp2_with (first
        | (refine wpList_load_row rfl 72 _ rfl (W.heap.size + 1) rfl 72 _ (0, 0) _ HO.out Try.underlying72 rfl (by rw [prodsCells]; exact size256) ?_)
        | (refine wpList_store_row rfl 72 _ _ rfl W.heap.size _ rfl rfl 72 _ HK.out (by rw [prodsCells]; exact size256) (by rw [prodsCells, Array.size_replicate]) (byt_one _) ?_))
      refine bodyPost_ret (v := .agg ((prods f 256).map byt).toArray) ?_ rfl ⟨rfl, below_setRow HB.out (Nat.le_refl _) _⟩
      exact results_cell_row rfl _ _ W.heap.size 72 _ (0, 0) _ rfl (known_setRow HK.out) Try.underlying72 rfl (by rw [prodsCells]; exact size256)

/-- What addMultiple leaves: block g holds l, and nothing else turned. -/
def AddedC (W : World) (g : Nat) (t : TypeId) (l : List UInt8) (e : Ending) (W' : World) : Prop := e = .returned (.tuple #[]) ∧ OwnT W' g t l ∧ W.grownBy W' (some g)
theorem below_grown {W V : World} (h : Below W.heap.size W V) (row : Option Nat) : W.grownBy V row := ⟨h.os, h.tape, h.output, h.size, fun b hb _ => h.block b hb⟩
set_option maxHeartbeats 4000000 in
set_option maxRecDepth 100000 in
theorem addMultiple_c (g : Nat) (t : TypeId) (l q : List UInt8) (c1 : Nat) (B : Option Addr) (c2 : Nat) (f : UInt8) (W : World) (hO : OwnT W g t l) (hq : Reads W B (q.map byt)) (hB : q ≠ [] → ∀ a, B = some a → a.block ≠ g)
    (hn : l.length = q.length) (hm : q.length ≤ 281474976710656) :
    Calls Try.prog 34 #[.slice (some ⟨g, 0, none⟩) q.length c1, .slice B q.length c2, .int .u8 f.toNat] W (AddedC W g t (addm l 0 q f)) := by
  by_cases hf : f = 0
  · subst hf
    rw [addm_zero (by omega)]
    go_enter Try.func34, Try.ntmps34
    go_wp2
    go_end0
    exact ⟨rfl, hO, grown_refl _ _⟩
  · have b1 : ((f.toNat : Int) == 0) = false := by
      rw [beq_eq_false_iff_ne]; intro e; exact hf (UInt8.toNat_inj.1 (by show f.toNat = 0; omega))
    have HO := Lib.hid hO
    have HQ := Lib.hid hq
    have HB := Lib.hid hB
    have HL := Lib.hid hn
    have HZ := Lib.hid (addm_nil l 0 f (by omega))
    clear hf hO hq hB hn
    generalize hN : q.length = m at *
    have HN := Lib.hid hN
    clear hN
    have hz : ∀ w : World, (zeroValue 72).run Try.prog w = .ok (.agg (Array.replicate 256 (.int .u8 0))) w := fun _ => by kernel_rfl
    go_enter Try.func34, Try.ntmps34
    go_wp2_with fail
    refine (productsOf_c f W).mono ?_
    rintro e w1 ⟨rfl, hB1⟩
    have HB1 := Lib.hid hB1
    clear hB1
    have hst : Known (w1.alloc (.cells (Array.replicate 256 (.int .u8 0)) 72)) w1.heap.size 72 (Array.replicate 256 (.int .u8 0)) := Known.made _ _ _
    have HST := Lib.hid hst
    clear hst
    go_wp2_with ((refine wpList_store_row rfl 72 _ _ rfl w1.heap.size _ rfl rfl 72 _ HST.out (by rw [prodsCells]; exact size256) (by rw [prodsCells, Array.size_replicate]) (byt_one _) ?_))
    have hG0 : W.grownBy ((w1.alloc (.cells (Array.replicate 256 (.int .u8 0)) 72)).setRow w1.heap.size ((prods f 256).map byt).toArray) (some g) :=
      below_grown (below_setRow (HB1.out.alloc HB1.out.size _) HB1.out.size _) _
    have hP0 : OwnT ((w1.alloc (.cells (Array.replicate 256 (.int .u8 0)) 72)).setRow w1.heap.size ((prods f 256).map byt).toArray) w1.heap.size 72 (prods f 256) := known_setRow HST.out
    have hO0 : OwnT ((w1.alloc (.cells (Array.replicate 256 (.int .u8 0)) 72)).setRow w1.heap.size ((prods f 256).map byt).toArray) g t l :=
      known_offRow ((Known.later HO.out HB1.out).alloc _) (by have h1 := HO.out.lt; have h2 := HB1.out.size; omega)
    have HG0 := Lib.hid hG0
    have HP0 := Lib.hid hP0
    have HO0 := Lib.hid hO0
    have HNE := Lib.hid (by have h1 := HO.out.lt; have h2 := HB1.out.size; omega : w1.heap.size ≠ g)
    clear hG0 hP0 hO0 hz
    go_loopw [15] (fun i wr => ∃ k : Nat, k ≤ m ∧ i = .int .i64 k ∧ OwnT wr g t (addm l 0 (q.take k) f) ∧ OwnT wr w1.heap.size 72 (prods f 256) ∧ W.grownBy wr (some g)) (fun i _ => m - (intOf i).toNat)
    case atStart => exact ⟨0, by omega, rfl, by rw [List.take_zero, HZ.out]; exact HO0.out, HP0.out, HG0.out⟩
    case round =>
      obtain ⟨k, hk, rfl, hO, hP, hG⟩ := hrel
      have HO1 := Lib.hid hO
      have HP1 := Lib.hid hP
      have HG1 := Lib.hid hG
      clear hO hP hG
      by_cases hlt : k < m
      · obtain ⟨b, o, c, rfl, ec, cc⟩ := (HQ.out.grown HG1.out (fun a ha e => HB.out (fun h => by have := HN.out; rw [h] at this; simp at this; omega) a ha (by injection e))).bytes (k := k) (by rw [HN.out]; exact hlt)
        have cs := HO1.out.at_ (addm_at (l := l) (q := q) (off := 0) f (by rw [HN.out]; rw [HL.out]; omega) (by rw [HN.out]; exact hlt))
        rw [Nat.zero_add] at cs
        have fs := HO1.out.free k
        have cp := HP1.out.at_ (k := c.toNat) (prods_at f 256 c.toNat_lt)
        rw [if_pos c.toNat_lt, UInt8.ofNat_toNat, mul_comm] at cp
        have hc8 := c.toNat_lt
        have EC := Lib.hid (addm_next (l := l) (off := 0) f (by rw [HN.out]; rw [HL.out]; omega) ec)
        have i1 : (k : Int) < (m : Int) := by omega
        have i3 : (c.toNat : Int) < 256 := by omega
        clear ec
        go_wp2
        refine Mem.region_tail 8 (by kernel_rfl) (by kernel_rfl) ?_
        simp only [List.take_succ_cons, List.take_zero, List.drop_succ_cons, List.drop_zero]
        repeat still_step
        refine wpStill_nil ?_
        go_wp2
        go_roundw
        case rel => exact ⟨k + 1, by omega, by go_num, by have h := EC.out; rw [Nat.zero_add] at h; rw [← h]; exact (HO1.out.put k _).drew, (HP1.out.off (p := ⟨g, k, none⟩) HNE.out _).drew, grown_drew (grown_set HG1.out _ _)⟩
        case measure => simp [intOf]; omega
      · obtain rfl : k = m := by omega
        go_wp2
        go_end0
        have h := HO1.out
        rw [List.take_of_length_le (by rw [HN.out]; exact Nat.le_refl _)] at h
        exact ⟨rfl, h, HG1.out⟩
end Go.Proofs.Ytomhcjnhhdbhjaa.Cdr
