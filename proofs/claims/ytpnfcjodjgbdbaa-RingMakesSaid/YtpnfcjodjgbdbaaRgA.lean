/-
  Contracts of package ring: the order of tokens.
-/
import Derived.Test.YtpnfcjodjgbdbaaRgMem
import Derived.Test.YtpnfcjodjgbdbaaShelf
import Derived.Shelf.SlSortCmp.QuietGrown
import Derived.RegionTactic
namespace Go.Proofs.Ytpnfcjodjgbdbaa.Ring
set_option linter.unusedVariables false
set_option linter.unusedSimpArgs false
open Go.RowKit Mem
open Go.Sort (grow alloc_eq_grow grow_grow)

theorem nan_c (a : UInt64) (W : World) : Calls Try.prog 63 #[.int .u64 a.toNat] W fun e w' => e = .returned (.bool false) ∧ W = w' := by
  go_enter Try.func63, Try.ntmps63
  go_wp2
  go_ret
  exact ⟨by simp, rfl⟩
def cmpU (a b : UInt64) : Int := Lib.compareInt a.toNat b.toNat
theorem cmpU_lt {a b : UInt64} (h : a.toNat < b.toNat) : cmpU a b = -1 := by unfold cmpU Lib.compareInt; simp [h]
theorem cmpU_gt {a b : UInt64} (h : b.toNat < a.toNat) : cmpU a b = 1 := by
  unfold cmpU Lib.compareInt
  rw [if_neg (by omega), if_pos (by omega)]
theorem cmpU_eq {a b : UInt64} (h : a.toNat = b.toNat) : cmpU a b = 0 := by
  unfold cmpU Lib.compareInt
  rw [if_neg (by omega), if_neg (by omega)]
theorem cmpU_c (a b : UInt64) (W : World) : Calls Try.prog 42 #[.int .u64 a.toNat, .int .u64 b.toNat] W fun e w' => e = .returned (.int .i64 (cmpU a b)) ∧ W = w' := by
  rcases Nat.lt_trichotomy a.toNat b.toNat with h | h | h
  · have E := Lib.hid (cmpU_lt h)
    go_enter Try.func42, Try.ntmps42
    go_wp2_with (go_at_call 63; refine (nan_c _ _).mono ?_; rintro e w' ⟨rfl, rfl⟩)
    go_ret
    exact ⟨by rw [E.out]; rfl, rfl⟩
  · have E := Lib.hid (cmpU_eq h)
    have h1 : ¬ a.toNat < b.toNat := by omega
    have h2 : ¬ b.toNat < a.toNat := by omega
    clear h
    go_enter Try.func42, Try.ntmps42
    go_wp2_with (go_at_call 63; refine (nan_c _ _).mono ?_; rintro e w' ⟨rfl, rfl⟩)
    go_ret
    exact ⟨by rw [E.out]; rfl, rfl⟩
  · have E := Lib.hid (cmpU_gt h)
    have h1 : ¬ a.toNat < b.toNat := by omega
    go_enter Try.func42, Try.ntmps42
    go_wp2_with (go_at_call 63; refine (nan_c _ _).mono ?_; rintro e w' ⟨rfl, rfl⟩)
    go_ret
    exact ⟨by rw [E.out]; rfl, rfl⟩

def orI (a b : Int) : Int := if a = 0 then b else a
set_option maxHeartbeats 1000000 in
theorem or_c (a b : Int) (g : Nat) (W : World) (h0 : W.cell? ⟨g, 0, none⟩ = some (.int .i64 a)) (h1 : W.cell? ⟨g, 1, none⟩ = some (.int .i64 b)) :
    Calls Try.prog 41 #[.slice (some ⟨g, 0, none⟩) 2 2] W fun e w' => e = .returned (.int .i64 (orI a b)) ∧ W = w' := by
  by_cases ha : a = 0
  · subst ha
    by_cases hb : b = 0
    · subst hb
      go_enter Try.func41, Try.ntmps41
      go_wp2
      go_loop [5, 8] (fun _ i => ∃ k : Nat, k ≤ 2 ∧ i = .int .i64 k) (fun _ i => 2 - (intOf i).toNat)
      case atStart => exact ⟨0, by omega, rfl⟩
      case round =>
        obtain ⟨k, hk, rfl⟩ := hrel
        rcases (by omega : k = 0 ∨ k = 1 ∨ k = 2) with rfl | rfl | rfl
        · go_wp2
          go_round
          case rel => exact ⟨1, by omega, rfl⟩
          case measure => simp [intOf]
        · go_wp2
          go_round
          case rel => exact ⟨2, by omega, rfl⟩
          case measure => simp [intOf]
        · go_wp2
          go_ret
          exact ⟨rfl, rfl⟩
    · have n1 : (b != 0) = true := by simpa using hb
      have n2 : (b == 0) = false := by simpa using hb
      have E := Lib.hid (show orI 0 b = b from if_pos rfl)
      clear hb
      go_enter Try.func41, Try.ntmps41
      go_wp2
      go_loop [5, 8] (fun _ i => ∃ k : Nat, k ≤ 1 ∧ i = .int .i64 k) (fun _ i => 2 - (intOf i).toNat)
      case atStart => exact ⟨0, by omega, rfl⟩
      case round =>
        obtain ⟨k, hk, rfl⟩ := hrel
        rcases (by omega : k = 0 ∨ k = 1) with rfl | rfl
        · go_wp2
          go_round
          case rel => exact ⟨1, by omega, rfl⟩
          case measure => simp [intOf]
        · go_wp2
          go_ret
          exact ⟨by rw [E.out]; rfl, rfl⟩
  · have n1 : (a != 0) = true := by simpa using ha
    have n2 : (a == 0) = false := by simpa using ha
    have E := Lib.hid (show orI a b = a from if_neg ha)
    clear ha
    go_enter Try.func41, Try.ntmps41
    go_wp2
    go_loop [5, 8] (fun _ i => i = .int .i64 0) (fun _ i => 2 - (intOf i).toNat)
    case atStart => rfl
    case round =>
      subst hrel
      go_wp2
      go_ret
      exact ⟨by rw [E.out]; rfl, rfl⟩

theorem new3 (w : World) (o1 o2 : Obj) (t : TypeId) (cs : Array Value) (i : Nat) (v : Value) (h : cs[i]? = some v) : (((w.alloc o1).alloc o2).alloc (.cells cs t)).drew.cell? ⟨w.heap.size + 1 + 1, i, none⟩ = some v := by
  have := (Known.made ((w.alloc o1).alloc o2) t cs).cell i
  rw [show ((w.alloc o1).alloc o2).heap.size = w.heap.size + 1 + 1 by simp] at this
  exact this.trans h
def ord (x y : Tk) : Int := orI (cmpU x.1 y.1) (Lib.compareInt x.2 y.2)
theorem ord_lt (x y : Tk) : ltB x y = decide (ord x y < 0) := by
  unfold ord ltB orI Lib.compareInt
  rcases Nat.lt_trichotomy x.1.toNat y.1.toNat with h | h | h
  · rw [cmpU_lt h]; simp [h]
  · rw [cmpU_eq h, if_pos rfl]
    by_cases h1 : x.2 < y.2
    · simp [h, h1]
    · by_cases h2 : y.2 < x.2 <;> simp [h, h1, h2]
  · rw [cmpU_gt h]; simp; omega
set_option maxRecDepth 100000 in
set_option maxHeartbeats 4000000 in
theorem order_c (x y : Tk) (W : World) : Calls Try.prog 30 #[.agg #[.int .u64 x.1.toNat, .int .i64 x.2], .agg #[.int .u64 y.1.toNat, .int .i64 y.2]] W
    fun e w' => e = .returned (.int .i64 (ord x y)) ∧ ∃ q os', w' = grow (W.drewN q) os' := by
  have E := Lib.hid (show ord x y = orI (cmpU x.1 y.1) (Lib.compareInt x.2 y.2) from rfl)
  generalize hc1 : cmpU x.1 y.1 = c1 at *
  generalize hc2 : Lib.compareInt x.2 y.2 = c2 at *
  have H1 : Hid (∀ V, Calls Try.prog 42 #[.int .u64 x.1.toNat, .int .u64 y.1.toNat] V fun e w' => e = .returned (.int .i64 c1) ∧ w' = V) := fun V => hc1 ▸ (cmpU_c x.1 y.1 V).mono fun _ _ ⟨a, b⟩ => ⟨a, b.symm⟩
  have H2 : Hid (∀ V, Calls Try.prog 43 #[.int .i64 x.2, .int .i64 y.2] V fun e w' => e = .returned (.int .i64 c2) ∧ w' = V) := fun V => hc2 ▸ (Try.cmp_Compare_int x.2 y.2 V)
  clear hc1 hc2
  go_enter Try.func30, Try.ntmps30
  go_wp2
  refine Mem.region_tail 10 (by kernel_rfl) (by kernel_rfl) ?_
  simp only [List.take_succ_cons, List.take_zero, List.drop_succ_cons, List.drop_zero]
  repeat (first | (refine wpStill_step (fun K hK => ?_); go_simp; (refine ⟨_, H1.out _, hK _ ?_⟩); clear hK K) | (refine wpStill_step (fun K hK => ?_); go_simp; (refine ⟨_, H2.out _, hK _ ?_⟩); clear hK K) | still_step)
  refine wpStill_nil ?_
  go_wp2_with (go_at_call 41; refine (or_c c1 c2 _ _ (new3 W _ _ _ #[.int .i64 c1, .int .i64 c2] 0 _ rfl) (new3 W _ _ _ #[.int .i64 c1, .int .i64 c2] 1 _ rfl)).mono ?_; rintro e w' ⟨rfl, rfl⟩)
  go_ret
  exact ⟨by rw [E.out]; rfl, 1, _, by rw [alloc_eq_grow, alloc_eq_grow, alloc_eq_grow, grow_grow, grow_grow]; rfl⟩
end Go.Proofs.Ytpnfcjodjgbdbaa.Ring
