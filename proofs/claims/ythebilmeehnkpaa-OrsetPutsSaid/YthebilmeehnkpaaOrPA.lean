/-
  Package orset, the program: the order of tags, isIndex, isKnown.
-/
import Derived.Test.YthebilmeehnkpaaOrMem
import Derived.Test.YthebilmeehnkpaaOrSq
import Derived.Test.YthebilmeehnkpaaShelf
import Derived.Shelf.SlSortCmp.QuietGrown
import Derived.Lib.QuietBelow
import Derived.RegionTactic
namespace Go.Proofs.Ythebilmeehnkpaa.Ors
set_option linter.unusedVariables false
set_option linter.unusedSimpArgs false
open Go.RowKit Mem Gt
open Jump (Gave equalZ_c)
open Go.Sort (grow alloc_eq_grow grow_grow)

/-! ### order -/
def orI (a b : Int) : Int := if a = 0 then b else a
set_option maxHeartbeats 1000000 in
theorem or_c (a b : Int) (g : Nat) (W : World) (h0 : W.cell? ⟨g, 0, none⟩ = some (.int .i64 a)) (h1 : W.cell? ⟨g, 1, none⟩ = some (.int .i64 b)) :
    Calls Try.prog 51 #[.slice (some ⟨g, 0, none⟩) 2 2] W fun e w' => e = .returned (.int .i64 (orI a b)) ∧ W = w' := by
  by_cases ha : a = 0
  · subst ha
    by_cases hb : b = 0
    · subst hb
      go_enter Try.func51, Try.ntmps51
      go_wp2
      go_loop [5, 8] (fun _ i => ∃ k : Nat, k ≤ 2 ∧ i = .int .i64 k) (fun _ i => 2 - (intOf i).toNat)
      case atStart => exact ⟨0, by omega, rfl⟩
      case round =>
        obtain ⟨k, hk, rfl⟩ := hrel
        rcases (by omega : k = 0 ∨ k = 1 ∨ k = 2) with rfl | rfl | rfl
        · go_wp2
          go_round
          case rel => exact ⟨1, by omega, rfl⟩
          case measure => simp [intOf]
        · go_wp2
          go_round
          case rel => exact ⟨2, by omega, rfl⟩
          case measure => simp [intOf]
        · go_wp2
          go_ret
          exact ⟨rfl, rfl⟩
    · have n1 : (b != 0) = true := by simpa using hb
      have n2 : (b == 0) = false := by simpa using hb
      have E := Lib.hid (show orI 0 b = b from if_pos rfl)
      clear hb
      go_enter Try.func51, Try.ntmps51
      go_wp2
      go_loop [5, 8] (fun _ i => ∃ k : Nat, k ≤ 1 ∧ i = .int .i64 k) (fun _ i => 2 - (intOf i).toNat)
      case atStart => exact ⟨0, by omega, rfl⟩
      case round =>
        obtain ⟨k, hk, rfl⟩ := hrel
        rcases (by omega : k = 0 ∨ k = 1) with rfl | rfl
        · go_wp2
          go_round
          case rel => exact ⟨1, by omega, rfl⟩
          case measure => simp [intOf]
        · go_wp2
          go_ret
          exact ⟨by rw [E.out]; rfl, rfl⟩
  · have n1 : (a != 0) = true := by simpa using ha
    have n2 : (a == 0) = false := by simpa using ha
    have E := Lib.hid (show orI a b = a from if_neg ha)
    clear ha
    go_enter Try.func51, Try.ntmps51
    go_wp2
    go_loop [5, 8] (fun _ i => i = .int .i64 0) (fun _ i => 2 - (intOf i).toNat)
    case atStart => rfl
    case round =>
      subst hrel
      go_wp2
      go_ret
      exact ⟨by rw [E.out]; rfl, rfl⟩

theorem new3 (w : World) (o1 o2 : Obj) (t : TypeId) (cs : Array Value) (i : Nat) (v : Value) (h : cs[i]? = some v) : (((w.alloc o1).alloc o2).alloc (.cells cs t)).drew.cell? ⟨w.heap.size + 1 + 1, i, none⟩ = some v := by
  have := (Known.made ((w.alloc o1).alloc o2) t cs).cell i
  rw [show ((w.alloc o1).alloc o2).heap.size = w.heap.size + 1 + 1 by simp] at this
  exact this.trans h
def cmI (a b : Int) : Int := Lib.compareInt a b
theorem cmI_lt {a b : Int} (h : a < b) : cmI a b = -1 := by unfold cmI Lib.compareInt; simp [h]
theorem cmI_gt {a b : Int} (h : b < a) : cmI a b = 1 := by
  unfold cmI Lib.compareInt
  rw [if_neg (by omega), if_pos (by omega)]
theorem cmI_eq {a b : Int} (h : a = b) : cmI a b = 0 := by
  unfold cmI Lib.compareInt
  rw [if_neg (by omega), if_neg (by omega)]
def ord (x y : Tg) : Int := orI (cmI x.1 y.1) (cmI x.2.1 y.2.1)
theorem ord_cases (x y : Tg) : (ord x y = -1 ∧ Klt x y) ∨ (ord x y = 0 ∧ x.1 = y.1 ∧ x.2.1 = y.2.1) ∨ (ord x y = 1 ∧ Klt y x) := by
  unfold ord orI Klt
  rcases Int.lt_trichotomy x.1 y.1 with h | h | h
  · rw [cmI_lt h]; exact .inl ⟨rfl, .inl h⟩
  · rw [cmI_eq h, if_pos rfl]
    rcases Int.lt_trichotomy x.2.1 y.2.1 with k | k | k
    · rw [cmI_lt k]; exact .inl ⟨rfl, .inr ⟨h, k⟩⟩
    · rw [cmI_eq k]; exact .inr (.inl ⟨rfl, h, k⟩)
    · rw [cmI_gt k]; exact .inr (.inr ⟨rfl, .inr ⟨h.symm, k⟩⟩)
  · rw [cmI_gt h]; exact .inr (.inr ⟨rfl, .inl h⟩)
theorem ord_lt (x y : Tg) : decide (ord x y < 0) = klt x y := by
  rcases ord_cases x y with ⟨h, k⟩ | ⟨h, k⟩ | ⟨h, k⟩
  · rw [h, klt_iff.2 k]; rfl
  · have : klt x y = false := by rw [← Bool.not_eq_true, klt_iff]; unfold Klt; omega
    rw [h, this]; rfl
  · have : klt x y = false := by rw [← Bool.not_eq_true, klt_iff]; unfold Klt at *; omega
    rw [h, this]; rfl
theorem ord_zero (x y : Tg) : decide (ord x y = 0) = sameKey y x := by
  unfold sameKey
  rcases ord_cases x y with ⟨h, k⟩ | ⟨h, k⟩ | ⟨h, k⟩
  · rw [h]; unfold Klt at k; by_cases e : x.1 = y.1 <;> by_cases e2 : x.2.1 = y.2.1 <;> simp [e, e2] <;> omega
  · rw [h, k.1, k.2]; simp
  · rw [h]; unfold Klt at k; by_cases e : x.1 = y.1 <;> by_cases e2 : x.2.1 = y.2.1 <;> simp [e, e2] <;> omega
abbrev tgV (x : Tg) : Value := .agg #[.int .i64 x.1, .int .i64 x.2.1, .int .i64 x.2.2]
set_option maxRecDepth 100000 in
set_option maxHeartbeats 4000000 in
theorem order_c (x y : Tg) (W : World) : Calls Try.prog 31 #[.agg #[.int .i64 x.1, .int .i64 x.2.1, .int .i64 x.2.2], .agg #[.int .i64 y.1, .int .i64 y.2.1, .int .i64 y.2.2]] W
    fun e w' => e = .returned (.int .i64 (ord x y)) ∧ ∃ q os', w' = grow (W.drewN q) os' := by
  have E := Lib.hid (show ord x y = orI (cmI x.1 y.1) (cmI x.2.1 y.2.1) from rfl)
  have H : Hid (∀ a b V, Calls Try.prog 52 #[.int .i64 a, .int .i64 b] V fun e w' => e = .returned (.int .i64 (cmI a b)) ∧ w' = V) := fun a b V => Try.cmp_Compare_int a b V
  go_enter Try.func31, Try.ntmps31
  go_wp2
  refine Mem.region_tail 10 (by kernel_rfl) (by kernel_rfl) ?_
  simp only [List.take_succ_cons, List.take_zero, List.drop_succ_cons, List.drop_zero]
  repeat (first | (refine wpStill_step (fun K hK => ?_); go_simp; (refine ⟨_, H.out _ _ _, hK _ ?_⟩); clear hK K) | still_step)
  refine wpStill_nil ?_
  go_wp2_with (go_at_call 51; refine (or_c (cmI x.1 y.1) (cmI x.2.1 y.2.1) _ _ (new3 W _ _ _ #[.int .i64 (cmI x.1 y.1), .int .i64 (cmI x.2.1 y.2.1)] 0 _ rfl) (new3 W _ _ _ #[.int .i64 (cmI x.1 y.1), .int .i64 (cmI x.2.1 y.2.1)] 1 _ rfl)).mono ?_; rintro e w' ⟨rfl, rfl⟩)
  go_ret
  exact ⟨by rw [E.out]; rfl, 1, _, by rw [alloc_eq_grow, alloc_eq_grow, alloc_eq_grow, grow_grow, grow_grow]; rfl⟩
theorem below_grow {B : Nat} {W V : World} (h : Below B W V) (hs : B ≤ V.heap.size) (q : Nat) (os : Array Obj) : Below B W (grow (V.drewN q) os) := by
  refine ⟨h.os, h.tape, h.output, ?_, fun b hb => ?_⟩
  · show _ ≤ (V.heap ++ os).size
    rw [Array.size_append]; have := h.size; omega
  · have h1 := h.block b hb
    show (V.heap ++ os)[b]? = _
    rw [Array.getElem?_append_left (by omega)]; exact h1
/-- order, for a walk. -/
theorem order_b (x y : Tg) (W : World) : Calls Try.prog 31 #[.agg #[.int .i64 x.1, .int .i64 x.2.1, .int .i64 x.2.2], .agg #[.int .i64 y.1, .int .i64 y.2.1, .int .i64 y.2.2]] W (Gave (.int .i64 (ord x y)) W) :=
  (order_c x y W).mono fun _ _ ⟨h, q, os, e⟩ => ⟨h, by rw [e]; exact below_grow (Below.refl _ _) (Nat.le_refl _) q os⟩

/-! ### isIndex, isKnown -/
set_option maxRecDepth 100000 in
set_option maxHeartbeats 4000000 in
theorem isIndex_c (A : Option Addr) (n ca : Nat) (who : Int) (V : World) (r : Bool) (hr : decide (0 ≤ who ∧ who < (n : Int)) = r) :
    Calls Try.prog 28 #[.int .i64 who, .slice A n ca] V (fun e W' => e = .returned (.bool r) ∧ W' = V) := by
  by_cases h1 : 0 ≤ who
  · by_cases h2 : who < (n : Int)
    · obtain rfl : true = r := by rw [← hr, decide_eq_true (show 0 ≤ who ∧ who < (n : Int) from ⟨h1, h2⟩)]
      clear hr
      go_enter Try.func28, Try.ntmps28
      go_wp2
      go_ret
      exact ⟨rfl, rfl⟩
    · obtain rfl : false = r := by rw [← hr, decide_eq_false (show ¬ (0 ≤ who ∧ who < (n : Int)) from fun h => h2 h.2)]
      clear hr
      go_enter Try.func28, Try.ntmps28
      go_wp2
      go_ret
      exact ⟨rfl, rfl⟩
  · obtain rfl : false = r := by rw [← hr, decide_eq_false (show ¬ (0 ≤ who ∧ who < (n : Int)) from fun h => h1 h.1)]
    clear hr
    go_enter Try.func28, Try.ntmps28
    go_wp2
    go_ret
    exact ⟨rfl, rfl⟩
theorem saw_some {s : List Int} {k : Nat} (hk : k < s.length) : s[k]? = some (sawAt s (k : Int)) := saw_get hk
set_option maxRecDepth 100000 in
set_option maxHeartbeats 4000000 in
theorem isKnown_c (H S : Option Addr) (nh ch ns cs : Nat) (s : List Int) (t : Tg) (V : World) (hs : s.length = ns) (hb : ns ≤ 17592186044416) (hx : Reads V S (ints s)) (h0 : 0 ≤ t.1) (h1 : t.1 < (ns : Int)) (r : Bool) (hr : decide (t.2.1 ≤ sawAt s t.1) = r) :
    Calls Try.prog 37 #[.agg #[.slice H nh ch, .slice S ns cs], .agg #[.int .i64 t.1, .int .i64 t.2.1, .int .i64 t.2.2]] V (Gave (.bool r) V) := by
  obtain ⟨t1, t2, t3⟩ := t
  simp only at h0 h1 hr ⊢
  obtain ⟨k, rfl⟩ : ∃ k : Nat, t1 = (k : Int) := ⟨t1.toNat, by omega⟩
  obtain ⟨x, hxx⟩ : ∃ x, sawAt s (k : Int) = x := ⟨_, rfl⟩
  have e := saw_some (s := s) (k := k) (by omega)
  rw [hxx] at e hr
  have B1 := low_lit V (.cells #[.slice H nh ch, .slice S ns cs] 25)
  have B2 := B1.trans ((low_lit (V.alloc (.cells #[.slice H nh ch, .slice S ns cs] 25)) (.cells #[.int .i64 (k : Int), .int .i64 t2, .int .i64 t3] 37)).mono B1.size)
  obtain ⟨b, o, rfl, _, c0⟩ := int_at (hx.below B2) e
  have i1 : (k : Int) < (ns : Int) := h1
  have BB := Lib.hid B2
  have HR := Lib.hid hr
  clear hs hb hx h0 h1 hxx e B1 B2 hr
  go_enter Try.func37, Try.ntmps37
  go_wp2
  go_quiet (fail)
  go_wp2
  go_ret
  exact ⟨by rw [HR.out]; rfl, below_drewN BB.out _⟩
end Go.Proofs.Ythebilmeehnkpaa.Ors
