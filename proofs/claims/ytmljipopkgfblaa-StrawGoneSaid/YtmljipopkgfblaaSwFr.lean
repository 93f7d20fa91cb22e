/-
  Package straw: a fraction's digits in memory; times and power.
-/
import Derived.Test.YtmljipopkgfblaaSwMem
import Derived.Test.YtmljipopkgfblaaSwCmp
import Derived.Laws.Rows
import Derived.Laws.Tables
import Derived.Laws.ResultCell
import Derived.Great.BuildSlice
namespace Go.Proofs.Ytmljipopkgfblaa.Straw
set_option linter.unusedVariables false
set_option linter.unusedSimpArgs false
open Go.RowKit Mem

theorem known_setRow {W : World} {g : Nat} {t : TypeId} {old cs : Array Value} (h : Known W g t old) : Known (W.setRow g cs) g t cs := setRow_heap W g old cs t (0, 0) h
theorem known_offRow {W : World} {g k : Nat} {t : TypeId} {old cs : Array Value} (h : Known W g t old) (hk : g ≠ k) : Known (W.setRow k cs) g t old := (setRow_other W k g cs hk).trans h
theorem below_setRow {B : Nat} {W V : World} (h : Below B W V) {g : Nat} (hg : B ≤ g) (cs : Array Value) : Below B W (V.setRow g cs) :=
  ⟨h.os, h.tape, h.output, by simpa using h.size, fun k hk => (setRow_other V g k cs (by omega)).trans (h.block k hk)⟩
/-- The cells of a fraction. -/
def cells (f : Nat → Nat) : Array Value := (Array.range 101).map fun i => .int .u64 (f i : Nat)
theorem cells_size (f : Nat → Nat) : (cells f).size = 101 := by simp [cells]
theorem cells_at (f : Nat → Nat) {i : Nat} (h : i ≤ 100) : (cells f)[i]? = some (.int .u64 (f i : Nat)) := by
  unfold cells
  rw [Array.getElem?_map, Array.getElem?_range]
  simp [show i < 101 by omega]
theorem cells_one (f : Nat → Nat) : (cells f).all (·.oneCell') = true := Array.all_eq_true_iff_forall_mem.2 fun v hv => by
  unfold cells at hv
  obtain ⟨i, _, rfl⟩ := Array.mem_map.1 hv
  rfl
theorem cells_ext {f g : Nat → Nat} (h : ∀ i, i ≤ 100 → f i = g i) : cells f = cells g := by
  refine Array.ext (by rw [cells_size, cells_size]) fun i h1 h2 => ?_
  rw [cells_size] at h1
  have e1 := cells_at f (show i ≤ 100 by omega)
  have e2 := cells_at g (show i ≤ 100 by omega)
  rw [h i (by omega), ← e2] at e1
  rw [Array.getElem?_eq_getElem (by rw [cells_size]; omega), Array.getElem?_eq_getElem (by rw [cells_size]; omega)] at e1
  exact Option.some.inj e1
theorem cells_set (f : Nat → Nat) (k v : Nat) : (cells f).setIfInBounds k (.int .u64 (v : Nat)) = cells (fun j => if j = k then v else f j) := by
  refine Array.ext (by simp [cells_size]) fun i h1 h2 => ?_
  rw [Array.size_setIfInBounds, cells_size] at h1
  have e2 := cells_at (fun j => if j = k then v else f j) (show i ≤ 100 by omega)
  rw [Array.getElem?_eq_getElem h2] at e2
  rw [Array.getElem_setIfInBounds (by rw [cells_size]; omega), Option.some.inj e2]
  by_cases hk : k = i
  · subst hk; simp
  · rw [if_neg hk, if_neg (fun h => hk h.symm)]
    have e1 := cells_at f (show i ≤ 100 by omega)
    rw [Array.getElem?_eq_getElem (by rw [cells_size]; omega)] at e1
    exact Option.some.inj e1
/-- Block p holds the digits f. -/
def Frac (W : World) (p : Nat) (f : Nat → Nat) : Prop := Known W p 64 (cells f)
section
variable {W V : World} {p : Nat} {f g : Nat → Nat}
theorem Frac.at_ (h : Frac W p f) {i : Nat} (hi : i ≤ 100) : W.cell? ⟨p, i, none⟩ = some (.int .u64 (f i : Nat)) := (Known.cell h i).trans (cells_at f hi)
theorem Frac.free (h : Frac W p f) (i : Nat) : W.frozen? ⟨p, i, none⟩ = false := Known.free h i
theorem Frac.lt (h : Frac W p f) : p < W.heap.size := Known.lt h
theorem Frac.congr (h : Frac W p f) (e : ∀ i, i ≤ 100 → f i = g i) : Frac W p g := by unfold Frac at *; rwa [← cells_ext e]
theorem Frac.put (h : Frac W p f) (k v : Nat) (e : ∀ i, i ≤ 100 → (if i = k then v else f i) = g i) : Frac (W.setCell ⟨p, k, none⟩ (.int .u64 (v : Nat))) p g := by
  have h1 := Known.put h k (.int .u64 (v : Nat))
  rw [cells_set] at h1
  exact Frac.congr h1 e
theorem Frac.below {B : Nat} (h : Frac W p f) (hb : Below B W V) (hp : p < B) : Frac V p f := Known.below h hb hp
theorem Frac.later (h : Frac W p f) (hb : Below W.heap.size W V) : Frac V p f := Known.later h hb
theorem Frac.drew (h : Frac W p f) : Frac W.drew p f := h
theorem Frac.alloc (h : Frac W p f) (o : Obj) : Frac (W.alloc o) p f := Known.alloc h o
end
/-- The digits in the midst of a multiplication: from the place m on they are new but for the one at m. -/
def mid (x n m : Nat) : Nat → Nat := fun j => if j ≤ m then dg (pw x n) j else dg (pw x (n + 1)) j
def cr (x n m : Nat) : Nat := if m = 0 then x ^ (n + 1) / 65536 ^ (n + 1) else carry x n (m - 1)
theorem mid_start {x n i : Nat} (hn : n ≤ 99) (hi : i ≤ 100) : dg (pw x n) i = mid x n (n + 1) i := by
  unfold mid
  by_cases h : i ≤ n + 1
  · rw [if_pos h]
  · rw [if_neg h, dg_pw_far (by omega) (by omega) hi, dg_pw_far (by omega) (by omega) hi]
theorem mid_next {x n m v : Nat} (hv : v = dg (pw x (n + 1)) (m + 1)) (i : Nat) : (if i = m + 1 then v else mid x n (m + 1) i) = mid x n m i := by
  unfold mid
  by_cases h : i = m + 1
  · subst h; rw [if_pos rfl, if_neg (by omega), hv]
  · rw [if_neg h]
    by_cases h2 : i ≤ m
    · rw [if_pos h2, if_pos (by omega)]
    · rw [if_neg h2, if_neg (by omega)]
theorem mid_end {x n v : Nat} (hx : x ≤ 65536) (hn : n ≤ 99) (hv : v = cr x n 0) (i : Nat) : (if i = 0 then v else mid x n 0 i) = dg (pw x (n + 1)) i := by
  unfold mid
  by_cases h : i = 0
  · subst h; rw [if_pos rfl, hv, dg_pw_zero hx (by omega)]; rfl
  · rw [if_neg h, if_neg (by omega)]
theorem cr_le {x n m : Nat} (hx : x ≤ 65536) : cr x n m ≤ 65536 := by
  unfold cr
  split
  · have h1 := Nat.pow_le_pow_left hx (n + 1)
    have h2 : x ^ (n + 1) / 65536 ^ (n + 1) ≤ 1 := Nat.div_le_of_le_mul (by rw [Nat.mul_one]; exact h1)
    omega
  · exact carry_lt hx
/-- What one digit leaves, and what it carries. -/
theorem cr_step {x n m : Nat} (hx : x ≤ 65536) (hn : n ≤ 99) (hm : m ≤ n) : (cr x n (m + 1) + mid x n (m + 1) m * x) % 65536 = dg (pw x (n + 1)) (m + 1) ∧ (cr x n (m + 1) + mid x n (m + 1) m * x) / 65536 = cr x n m := by
  have e1 : cr x n (m + 1) = carry x n m := by unfold cr; rw [if_neg (by omega), Nat.add_sub_cancel]
  have e2 : mid x n (m + 1) m = dg (pw x n) m := by unfold mid; rw [if_pos (by omega)]
  rw [e1, e2]
  obtain ⟨h1, h2, h3⟩ := carry_step (x := x) hn hm
  refine ⟨h1, ?_⟩
  by_cases h0 : m = 0
  · rw [h3 h0 (pow_small hx)]; unfold cr; rw [if_pos h0]
  · rw [h2 h0]; unfold cr; rw [if_neg h0]
theorem mid_lt (x n m i : Nat) : mid x n m i < 65536 := by unfold mid; split <;> exact dg_lt _ _
set_option maxRecDepth 100000 in
set_option maxHeartbeats 4000000 in
theorem times_c (p x n : Nat) (W : World) (hx : x ≤ 65536) (hn : n ≤ 99) (hF : Frac W p (dg (pw x n))) :
    Calls Try.prog 55 #[.pointer (some ⟨p, 0, none⟩), .int .u64 x, .int .i64 n] W fun e w' =>
      e = .returned (.tuple #[]) ∧ Frac w' p (dg (pw x (n + 1))) ∧ Below p W w' ∧ W.drawn ≤ w'.drawn := by
  have F0 := Lib.hid (hF.congr (fun i hi => mid_start hn hi))
  have CZ := Lib.hid (show cr x n (n + 1) = 0 by unfold cr; rw [if_neg (by omega), Nat.add_sub_cancel]; exact carry_start x n)
  clear hF
  go_enter Try.func55, Try.ntmps55
  go_wp2
  go_loopw [6, 7] (fun c i wr => ∃ m : Nat, m ≤ n + 1 ∧ i = .int .i64 ((m : Int) - 1) ∧ c = .int .u64 (cr x n m : Nat) ∧ Frac wr p (mid x n m) ∧ Below p W wr ∧ W.drawn ≤ wr.drawn) (fun _ i _ => (intOf i + 1).toNat)
  case atStart => exact ⟨n + 1, by omega, by congr 1; omega, by rw [CZ.out]; rfl, F0.out, Below.refl _ _, Nat.le_refl _⟩
  case round =>
    obtain ⟨m, hm, hi, rfl, hF, hB, hD⟩ := hrel
    have HF := Lib.hid hF
    have HB := Lib.hid hB
    have HD := Lib.hid hD
    clear F0 CZ hB hD
    rcases m with _ | m
    · have hi2 : _ = Value.int .i64 (-1) := hi
      subst hi2
      have c0 := hF.at_ (i := 0) (by omega)
      have f0 := hF.free 0
      have E := Lib.hid (fun v (hv : v = cr x n 0) => hF.put 0 v (fun i _ => mid_end hx hn hv i))
      generalize hc : cr x n 0 = c at *
      have HC := Lib.hid hc
      clear hi hc hF
      go_wp2
      go_end0
      exact ⟨rfl, E.out _ rfl, HB.out.setCell (Nat.le_refl _) _, HD.out⟩
    · have hi2 : _ = Value.int .i64 (m : Int) := hi.trans (by congr 1; omega)
      subst hi2
      obtain ⟨s1, s2⟩ := cr_step (x := x) (n := n) (m := m) hx hn (by omega)
      have c0 := hF.at_ (i := m) (by omega)
      have c1 := hF.at_ (i := m + 1) (by omega)
      have f1 := hF.free (m + 1)
      have cl := cr_le (x := x) (n := n) (m := m + 1) hx
      have dl := mid_lt x n (m + 1) m
      have E := Lib.hid (fun v hv => hF.put (m + 1) v (fun i _ => mid_next (x := x) (n := n) (m := m) (v := v) hv i))
      generalize cr x n (m + 1) = c at *
      generalize mid x n (m + 1) m = d at *
      generalize mid x n (m + 1) (m + 1) = d' at *
      have pl : d * x ≤ 65535 * 65536 := Nat.mul_le_mul (by omega) hx
      have mw : IntKind.u64.wrap ((d : Int) * (x : Int)) = ((d * x : Nat) : Int) := by rw [← Int.natCast_mul]; exact IntWalk.u64_in _ (by omega)
      have mw2 : (d : Int) * (x : Int) = ((d * x : Nat) : Int) := (Int.natCast_mul d x).symm
      generalize d * x = y at *
      have aw : IntKind.u64.wrap ((c : Int) + (y : Int)) = ((c + y : Nat) : Int) := by rw [← Int.natCast_add]; exact IntWalk.u64_in _ (by omega)
      have aw2 : (c : Int) + (y : Int) = ((c + y : Nat) : Int) := by omega
      have sl : c + y ≤ 4295032832 := by omega
      generalize c + y = s at *
      have tm : (s : Int).tmod 65536 = ((s % 65536 : Nat) : Int) := by rw [Int.tmod_eq_emod_of_nonneg (by omega)]; omega
      have tm2 : (s : Int) % 65536 = ((s % 65536 : Nat) : Int) := by omega
      have td : (s : Int) / 65536 = ((s / 65536 : Nat) : Int) := by omega
      have td2 : (s : Int).tdiv 65536 = ((s / 65536 : Nat) : Int) := by rw [Int.tdiv_eq_ediv_of_nonneg (by omega)]; omega
      have rl : s % 65536 < 65536 := by omega
      have ql : s / 65536 ≤ 65536 := by omega
      have S1 := Lib.hid s1
      have S2 := Lib.hid s2
      generalize s % 65536 = r at *
      generalize s / 65536 = q at *
      have j1 : (m : Int) < 101 := by omega
      have j2 : (m : Int) + 1 < 101 := by omega
      have j3 : (0 : Int) ≤ (m : Int) := by omega
      clear s1 s2 hi hF cl dl pl
      go_wp2
      go_roundw
      case rel => exact ⟨m, by omega, rfl, by rw [← S2.out], E.out r S1.out, HB.out.setCell (Nat.le_refl _) _, HD.out⟩
      case measure => simp [intOf]
theorem sizeF : (Try.prog.info? 64).map (·.size) = some 101 := by kernel_rfl
theorem cells_first : cells (fun i => if i = 0 then 1 else 0) = cells (dg (pw 1 0)) := cells_ext fun i hi => by
  by_cases h : i = 0
  · subst h; rw [if_pos rfl, dg_pw (by omega) (by omega)]
  · rw [if_neg h, dg_pw_far (by omega) (by omega) hi]
theorem pw_zero (x y : Nat) : pw x 0 = pw y 0 := by unfold pw; simp
set_option maxRecDepth 100000 in
set_option maxHeartbeats 4000000 in
theorem pow_c (x n : Nat) (W : World) (hx : x ≤ 65536) (hn : n ≤ 100) :
    Calls Try.prog 39 #[.int .i64 x, .int .i64 n] W fun e w' => e = .returned (.agg (cells (dg (pw x n)))) ∧ Below W.heap.size W w' ∧ W.drawn ≤ w'.drawn := by
  have C1 := Lib.hid (show (cells (fun _ => 0)).setIfInBounds 0 (.int .u64 1) = cells (dg (pw x 0)) from (cells_set (fun _ => 0) 0 1).trans (cells_first.trans (cells_ext (fun i _ => by rw [pw_zero 1 x]))))
  have hz : ∀ w : World, (zeroValue 64).run Try.prog w = .ok (.agg (cells (fun _ => 0))) w := fun _ => by kernel_rfl
  have ZS := Lib.hid (cells_size (fun _ => 0))
  have hne : ¬ cells (fun _ => 0) = #[] := fun h => by have := congrArg Array.size h; rw [cells_size] at this; cases this
  go_enter Try.func39, Try.ntmps39
  go_wp2_with (refine wpList_store_row rfl 64 _ _ rfl (W.heap.size + 1) ((cells (fun _ => 0)).setIfInBounds 0 (.int .u64 1)) rfl rfl 64 (cells (fun _ => 0)) (heap_alloc2_new _ _ _) (by rw [Array.size_setIfInBounds, ZS.out]; exact sizeF) (by rw [Array.size_setIfInBounds]) (by rw [C1.out]; exact cells_one _) ?_)
  go_loopw [9] (fun i wr => ∃ k : Nat, k ≤ n ∧ i = .int .i64 k ∧ Known wr W.heap.size 64 (cells (fun _ => 0)) ∧ Frac wr (W.heap.size + 1) (dg (pw x k)) ∧ Below W.heap.size W wr ∧ W.drawn ≤ wr.drawn) (fun i _ => n - (intOf i).toNat)
  case atStart =>
    refine ⟨0, by omega, rfl, known_offRow ((Known.made W _ _).alloc _) (by simp), ?_, below_setRow (((Below.refl _ _).alloc (Nat.le_refl _) _).alloc (by simp) _) (by omega) _, Nat.le_refl _⟩
    unfold Frac
    rw [← C1.out]
    exact known_setRow (heap_alloc2_new _ _ _)
  case round =>
    obtain ⟨k, hk, rfl, hK, hF, hB, hD⟩ := hrel
    have HK := Lib.hid hK
    have HF := Lib.hid hF
    have HB := Lib.hid hB
    have HD := Lib.hid hD
    clear hK hF hB hD hz
    by_cases hlt : k < n
    · go_wp2_with fail
      refine (times_c (W.heap.size + 1) x k _ hx (by omega) HF.out).mono ?_
      rintro e w1 ⟨rfl, hF, hb, hd⟩
      have F1 := Lib.hid hF
      have K1 := Lib.hid (HK.out.below hb (by omega))
      have B1 := Lib.hid (HB.out.trans (hb.mono (by omega)))
      have D1 := Lib.hid (Nat.le_trans HD.out hd)
      clear hF hb hd
      go_wp2
      go_roundw
      case rel => exact ⟨k + 1, by omega, by go_num, K1.out, F1.out, B1.out, D1.out⟩
      case measure => simp [intOf]; omega
    · obtain rfl : k = n := by omega
      go_wp2_with (first
        | (refine wpList_load_row rfl 64 _ rfl (W.heap.size + 1) rfl 64 _ (0, 0) _ HF.out Try.underlying64 rfl (by rw [cells_size]; exact sizeF) ?_)
        | (refine wpList_store_row rfl 64 _ _ rfl W.heap.size _ rfl rfl 64 _ HK.out (by rw [cells_size]; exact sizeF) (by rw [cells_size, cells_size]) (cells_one _) ?_))
      refine bodyPost_ret (v := .agg (cells (dg (pw x k)))) ?_ rfl ⟨rfl, below_setRow HB.out (Nat.le_refl _) _, HD.out⟩
      exact results_cell_row rfl _ _ W.heap.size 64 _ (0, 0) _ rfl (known_setRow HK.out) Try.underlying64 rfl (by rw [cells_size]; exact sizeF)
end Go.Proofs.Ytmljipopkgfblaa.Straw
