/-
  slices.Values over numbers of the call's own, slices.Collect of them, slices.Sort, slices.Sorted.
-/
import Derived.Test.YtahhgeecikljdaaTbCount
import Derived.Test.YtahhgeecikljdaaShelf
import Derived.RangeFuncNested
import Derived.RangeFuncBound
import Derived.RangeFuncCalls
import Derived.RangeFuncLeaves
import Derived.RangeFuncBox
import Derived.Shelf.Abstract
import Derived.Shelf.RegionOpen
import Derived.OwnWalkIn
import Derived.TacticsInMore
import Derived.LoopNIn
import Derived.LoopIn
import Derived.Maps.AppendAt
namespace Go.Proofs.Ytahhgeecikljdaa.Tb
set_option linter.unusedVariables false
set_option linter.unusedSimpArgs false
open Go.RowKit Mem
open Go.Sort (grow putRow Holds)

section
attribute [local go_sem] Oper.semAt_some
/-- Two blocks lie as they lay. -/
def Kept (B1 B2 : Nat) (W W' : World) : Prop := W'.heap[B1]? = W.heap[B1]? ∧ W'.heap[B2]? = W.heap[B2]?
theorem kept_t {B1 B2 : Nat} {A B C : World} (h : Kept B1 B2 A B) (k : Kept B1 B2 B C) : Kept B1 B2 A C := ⟨k.1.trans h.1, k.2.trans h.2⟩
theorem kept_b {B1 B2 : Nat} {w : World} (h1 : B1 < w.heap.size) (h2 : B2 < w.heap.size) (W : World) (l : Nat) (o o' : Obj) (hl : w.heap.size ≤ l) (h : W.heap[l]? = some o) (_ : o.isCells = false) (_ : o.isWalk = false) : Kept B1 B2 W (W.putObj l o') :=
  ⟨World.putObj_heap_other (by omega), World.putObj_heap_other (by omega)⟩
theorem kept_below {B1 B2 n : Nat} {W V : World} (h : Below n W V) (h1 : B1 < n) (h2 : B2 < n) : Kept B1 B2 W V := ⟨h.block B1 h1, h.block B2 h2⟩
def seqV (B : Nat) : Value := .func (.func 39) #[] #[.pointer (some ⟨B, 0, none⟩)]
set_option maxRecDepth 100000 in
set_option maxHeartbeats 1000000 in
theorem steps_in (nn : Nat) (hnn : 1 ≤ nn) (fl B g : Nat) (l : List Nat) (n c : Nat) (hn : l.length = n) (hb : n ≤ 1000) (J Jx : List Nat → World → Prop)
    (hY : ∀ pre (x : Nat) W, J pre W → pre.length < n → YieldAt Fence.wide (nn - 1) Try.prog fl #[.int .i64 (x : Int)] W fun e W' =>
      (e = .returned (.bool true) ∧ J (pre ++ [x]) W' ∧ Kept B g W W') ∨ (e = .returned (.bool false) ∧ Jx (pre ++ [x]) W'))
    (W : World) (h1 : W.heap[B]? = some (.cells #[.slice (some ⟨g, 0, none⟩) n c] 22 (0, 0))) (h2 : Cells W g 3 nz l) (h0 : J [] W) :
    CallsIn Fence.wide nn Try.prog 39 #[.func (.yield fl) #[] #[], .pointer (some ⟨B, 0, none⟩)] W fun e W' => (∃ v, e = .returned v) ∧
      ((∃ ys, ys = l ∧ J ys W') ∨ (∃ pre, True ∧ Jx pre W')) := by
  have HC := Lib.hid (show ∀ V : World, Kept B g W V → Cells V g 3 nz l from fun V h => h.2.trans h2)
  have hc1 : W.cell? ⟨B, 0, none⟩ = some (.slice (some ⟨g, 0, none⟩) n c) := Boxed.cell h1
  have HN := Lib.hid hn
  clear h1 h2 hn
  refine callsIn_of_wp Try.func39 rfl trivial ?_ rfl
  simp only [Try.ntmps39, List.size_toArray, List.length_cons, List.length_nil, Nat.reduceAdd, Nat.reduceSub, Array.replicate_succ, Array.replicate_zero, List.push_toArray, List.append_toArray, List.nil_append, List.cons_append]
  gi_wp2
  gi_loopw [7] (fun vi wr => ∃ k : Nat, k ≤ n ∧ vi = .int .i64 k ∧ J (l.take k) wr ∧ Kept B g W wr) (fun vi _ => n - (intOf vi).toNat)
  case atStart => exact ⟨0, by omega, rfl, h0, rfl, rfl⟩
  case round =>
    obtain ⟨k, hk, rfl, hJ, hK⟩ := hrel
    have HK := Lib.hid hK
    have HJ := Lib.hid hJ
    clear hJ hK
    by_cases hlt : k < n
    · have k1 : k < l.length := by rw [HN.out]; exact hlt
      have cx := (HC.out _ HK.out).at_ (List.getElem?_eq_getElem k1)
      have TN := Lib.hid (show l.take (k + 1) = l.take k ++ [l[k]] by rw [List.take_succ_eq_append_getElem k1])
      obtain ⟨fn, tmps, assign, body, hy, hR⟩ := hY (l.take k) l[k] wr HJ.out (by rw [List.length_take]; omega)
      obtain ⟨x, hx⟩ : ∃ x, x = l[k] := ⟨_, rfl⟩
      rw [← hx] at cx TN hy hR
      unfold nz at cx
      clear hx
      have i1 : (k : Int) < (n : Int) := by omega
      have i2 : decide ((k : Int) < (n : Int)) = true := decide_eq_true i1
      have i3 : decide (k < n) = true := decide_eq_true hlt
      gi_wp2
      refine hR.mono ?_
      rintro e W3 (⟨rfl, hJ3, hk3⟩ | ⟨rfl, hJx3⟩)
      · have HJ3 := Lib.hid hJ3
        have HK3 := Lib.hid (kept_t HK.out hk3)
        clear hJ3 hk3 hY
        gi_wp2
        go_roundw
        case rel => exact ⟨k + 1, by omega, by go_num, by rw [TN.out]; exact HJ3.out, HK3.out⟩
        case measure => simp [intOf]; omega
      · gi_wp2
        refine bodyPost_ret (results_none rfl _ _ _) rfl ?_
        exact ⟨⟨_, rfl⟩, .inr ⟨_, trivial, hJx3⟩⟩
    · obtain rfl : k = n := by omega
      have i2 : decide ((k : Int) < (k : Int)) = false := decide_eq_false (by omega)
      have i3 : decide (k < k) = false := decide_eq_false (by omega)
      have HG := Lib.hid (show ∃ ys, ys = l ∧ J ys wr from ⟨l, rfl, by have := HJ.out; rwa [List.take_of_length_le (by rw [HN.out]; omega)] at this⟩)
      gi_wp2
      go_end0
      exact ⟨⟨_, rfl⟩, .inl HG.out⟩
theorem steps_stops (nn : Nat) (hnn : 1 ≤ nn) (B g : Nat) (l : List Nat) (n c : Nat) (hn : l.length = n) (hb : n ≤ 1000) (w : World)
    (h1 : Boxed w B 22 (.slice (some ⟨g, 0, none⟩) n c)) (h2 : Cells w g 3 nz l) :
    SeqStopsK Fence.wide nn Try.prog 39 #[.pointer (some ⟨B, 0, none⟩)] (fun x : Nat => #[Value.int .i64 (x : Int)]) (Kept B g)
      (fun ys => ys = l) (fun _ => True) n w := fun fl J Jx W hW _ _ hY h0 =>
  steps_in nn hnn fl B g l n c hn hb J Jx hY W ((hW.block B h1.lt).trans h1) ((hW.block g h2.lt).trans h2) h0
/-- What an append of the numbers gives. -/
def Took (l : List Nat) (n : Nat) (W : World) (e : Ending) (W' : World) : Prop :=
  ∃ A c, e = .returned (.slice A n c) ∧ Stripe.ITab W' W.heap.size (.slice A n c) l ∧ Below W.heap.size W W'
set_option maxRecDepth 100000 in
set_option maxHeartbeats 2000000 in
theorem appendSeq_c (B g : Nat) (l : List Nat) (n c : Nat) (hn : l.length = n) (hb : n ≤ 1000) (w : World)
    (h1 : Boxed w B 22 (.slice (some ⟨g, 0, none⟩) n c)) (h2 : Cells w g 3 nz l) :
    Calls Try.prog 53 #[.slice none 0 0, seqV B] w (Took l n w) := by
  obtain ⟨i0, hi, hz0, hz1, hz2⟩ := info_parts Stripe.infoI
  have hlt1 := h1.lt
  have hlt2 := h2.lt
  have ST := Lib.hid (steps_stops 2 (by omega) B g l n c hn hb (w.alloc (.cells #[.slice none 0 0] 22)) (h1.alloc _) (h2.alloc _))
  have HN := Lib.hid hn
  clear h1 h2 hn
  refine (callsIn_wide (n := 3)).1 ?_
  refine callsIn_of_wp_marks Try.func53 rfl trivial ?_ rfl
  simp only [Try.ntmps53, List.size_toArray, List.length_cons, List.length_nil, Nat.reduceAdd, Nat.reduceSub, Array.replicate_succ, Array.replicate_zero, List.push_toArray, List.append_toArray, List.nil_append, List.cons_append]
  gi_wp2
  have bO := Boxed.new w 22 (.slice none 0 0)
  have hB0 : Below w.heap.size w (w.alloc (.cells #[.slice none 0 0] 22)) := (Below.refl _ w).alloc (Nat.le_refl _) _
  refine wpIn_rangeFunc_ownG rfl (by omega) (gf := 39) (lb := #[.pointer (some ⟨B, 0, none⟩)]) rfl trivial (enters_of Try.func39 (by kernel_rfl) rfl)
    ST.out kept_t (kept_b (by simp; omega) (by simp; omega)) (Below.refl _ _) (fun _ => rfl)
    (fun (pre : List Nat) W => (∃ v, Boxed W w.heap.size 22 v ∧ W.ownsRow w.heap.size 3 1 v pre.length (pre.map Stripe.nat64) ∧ True) ∧ Below w.heap.size w W)
    (fun _ _ _ => False)
    (OwnFrom.and (Own.from (holdsRow_own w.heap.size w.heap.size 22 3 1 (fun (pre : List Nat) => pre.length) (fun (pre : List Nat) => pre.map Stripe.nat64) (fun _ _ => True)) _) (ownFrom_below (Nat.le_refl _) (by simp)))
    (fun _ _ _ _ _ hs _ _ => hs)
    ⟨⟨_, bO, World.ownsRow_nil _ _ _ _, trivial⟩, hB0⟩
    (fun x => { tmps := #[.slice none 0 0, seqV B, .pointer (some ⟨w.heap.size, 0, none⟩), undef, .slice none 0 0, .int .i64 (x : Int), seqV B, .int .i64 (x : Int), undef, undef, undef, undef, undef], defers := [] }) ?assign ?body ?done ?stop
  case assign =>
    intro l x W K hK
    gi_wp2
    exact hK
  case body =>
    rintro fl pre x W ⟨⟨v, hv, hrow, _⟩, hB⟩ hlt
    have hc := hv.cell
    gi_wp2_with (gi_at_builtin; refine wpListIn_append_own _ rfl _ _ 22 rfl w.heap.size 3 i0 (.int .i64 0) 1 8 Try.underlying22 hi hz0 hz1 hz2 rfl (by decide) _ _ _ rfl (hrow.alloc _) ⟨W.heap.size, 0, none⟩ 1 1 [.int .i64 (x : Int)] rfl rfl (cell_one_new _ _ _) (by simp [Value.oneCell']) (by unfold maxLen; omega) (by omega) (by have := hB.size; simp; omega) ?_; intro v' w1 hown' hgrow _; obtain ⟨g', cap', rfl⟩ := ownsRow_succ hown'; obtain ⟨hv1, hv2, hr2, hk2, hb2⟩ := hv.appended (by decide) hrow hB.size (Nat.le_refl _) hown' hgrow; have hc1 := hv1.cell; have hf1 := hv1.frozen)
    exact ⟨hk2.from _, kept_below hb2 hlt1 hlt2, ⟨_, hv2, by simpa [Stripe.nat64] using hr2, trivial⟩, hB.trans hb2⟩
  case done =>
    rintro D ys W hD rfl ⟨⟨v, hv, hrow, _⟩, hB⟩ hK
    have hc := hv.cell
    gi_wp2
    refine ⟨by simp, .inl ⟨_, _, rfl, run_takeDeferred hK, ?_⟩⟩
    have HR := ownsRow_putObj hrow (.deferred none) hK rfl
    have HG : Stripe.ITab (W.putObj D (.deferred none)) w.heap.size v ys := by
      unfold Stripe.ITab Grows
      rw [List.length_map]; exact HR
    obtain ⟨A, c, hvv, _, _⟩ := HG.form
    rw [HN.out] at hvv
    subst hvv
    exact ⟨_, results_tmp rfl _ _ _, A, c, rfl, HG, hB.trans (belowK_b (w := w) (Nat.le_refl _) W D _ _ (by simp at hD; omega) hK rfl rfl)⟩
  case stop =>
    rintro D c pre W _ _ h _
    exact h.elim
end
set_option maxHeartbeats 1000000 in
theorem collect_c (B g : Nat) (l : List Nat) (n c : Nat) (hn : l.length = n) (hb : n ≤ 1000) (w : World)
    (h1 : Boxed w B 22 (.slice (some ⟨g, 0, none⟩) n c)) (h2 : Cells w g 3 nz l) :
    Calls Try.prog 37 #[seqV B] w (Took l n w) := by
  have K := Lib.hid (appendSeq_c B g l n c hn hb w h1 h2)
  clear h1 h2 hn
  go_enter Try.func37, Try.ntmps37
  go_wp2_with fail
  refine K.out.mono ?_
  rintro e w1 ⟨A, c', rfl, hr, hb⟩
  have HR := Lib.hid hr
  have HB := Lib.hid hb
  clear hr hb
  go_wp2
  go_ret
  exact ⟨A, c', rfl, HR.out, HB.out⟩
theorem values_c (A : Option Addr) (n c : Nat) (w : World) :
    Calls Try.prog 20 #[.slice A n c] w fun e w' => e = .returned (seqV w.heap.size) ∧ w.alloc (.cells #[.slice A n c] 22) = w' := by
  have mk := fun fn first cap w => (show (Instr.makeFunc fn first cap).run Try.prog w = .ok (.func fn first cap) w from rfl)
  unfold seqV
  go_enter Try.func20, Try.ntmps20
  go_wp2
  go_ret
  exact ⟨rfl, rfl⟩

/-! ### Sorted -/
theorem below_put {B : Nat} {W : World} {g off q : Nat} {d : Array Int} (hg : B ≤ g) : Below B W (putRow (Value.int .i64) (Sort.ahead W q) g off d) := by
  refine ⟨rfl, rfl, rfl, by simp [putRow, Sort.mapBlock], fun b hb => ?_⟩
  simp only [putRow, Sort.mapBlock, Array.getElem?_modify]
  rw [if_neg (by omega)]; rfl
theorem below_grow' {B : Nat} {W V : World} (h : Below B W V) (hB : B ≤ V.heap.size) (os : Array Obj) : Below B W (grow V os) :=
  ⟨h.os, h.tape, h.output, Nat.le_trans h.size (by simp [grow]), fun b hb => by
    rw [← h.block b hb]; simp only [grow]; rw [Array.getElem?_append_left (by omega)]⟩
theorem ints_sorted {l : List Nat} {n : Nat} (h : Full l n) : ((l.map (fun x : Nat => (x : Int))).mergeSort fun x y => decide (x ≤ y)) = (List.range n).map (fun x : Nat => (x : Int)) := by
  refine List.Perm.eq_of_pairwise (le := fun x y : Int => x ≤ y) (fun a b _ _ h1 h2 => Int.le_antisymm h1 h2) ?_ ?_ ?_
  · have := List.pairwise_mergeSort (le := fun x y : Int => decide (x ≤ y)) (fun a b c h1 h2 => by simp at *; omega) (fun a b => by simp; omega) (l.map (fun x : Nat => (x : Int)))
    exact this.imp (fun h => by simpa using h)
  · rw [List.pairwise_map]
    exact List.pairwise_lt_range.imp (fun h => by omega)
  · exact (List.mergeSort_perm _ _).trans (h.perm.map _)
set_option maxHeartbeats 2000000 in
theorem sort_c (B : Nat) (A : Option Addr) (l : List Nat) (n c : Nat) (W : World) (hl : Full l n) (h0 : 0 < n) (hb : n ≤ 1000) (hT : Stripe.ITab W B (.slice A n c) l) :
    Calls Try.prog 38 #[.slice A n c] W fun e w' => e = .returned (.tuple #[]) ∧ Reads w' A ((List.range n).map nz) ∧ Below B W w' := by
  have hn := hl.len
  obtain ⟨g, cap, cur, hv, hB, hg, _⟩ : ∃ g cap cur, Value.slice A n c = .slice (some ⟨g, 0, none⟩) l.length cap ∧ B ≤ g ∧ W.heap[g]? = some (.cells cur 3 (0, 0)) ∧ True := by
    rcases hT.2 with ⟨_, hn0⟩ | ⟨g, cap, cur, e, h1, h2, _⟩
    · simp at hn0; subst hn0; simp at hn; omega
    · exact ⟨g, cap, cur, by simpa using e, h1, h2, trivial⟩
  injection hv with hA _ hc
  subst hA hc
  have hgl : g < W.heap.size := (Array.getElem?_eq_some_iff.1 hg).1
  have hT' : W.ownsRow B 3 1 (.slice (some ⟨g, 0, none⟩) n c) n (l.map Stripe.nat64) := by
    have h3 := hT; unfold Stripe.ITab Grows at h3; rw [List.length_map, hn] at h3; exact h3
  have hH : Holds (Value.int .i64) W g 0 (l.map (fun x : Nat => (x : Int))).toArray := by
    intro j hj
    have hj' : j < l.length := by simpa using hj
    refine ⟨?_, by rw [Nat.zero_add]; exact hT'.frozenAt j⟩
    rw [Nat.zero_add, hT'.cellAt j (by omega), List.getElem?_map, List.getElem?_eq_getElem hj', getElem!_pos (l.map (fun x : Nat => (x : Int))).toArray j hj]
    simp [Stripe.nat64]
  have H := Try.slices_Sort_int g 0 c (l.map (fun x : Nat => (x : Int))) W hH hgl (by simp; omega)
  rw [ints_sorted hl, List.length_map, hn] at H
  refine H.mono ?_
  rintro e w ⟨rfl, q, os, rfl⟩
  have hp := Sort.holds_putRow (Value.int .i64) (Sort.ahead W q) g 0 (l.map (fun x : Nat => (x : Int))).toArray ((List.range n).map (fun x : Nat => (x : Int))).toArray (Sort.holds_ahead _ _ _ _ _ _ hH) (by simp [hn])
  have hbb : Below B W (putRow (Value.int .i64) (Sort.ahead W q) g 0 ((List.range n).map (fun x : Nat => (x : Int))).toArray) := below_put hB
  have hsz : (putRow (Value.int .i64) (Sort.ahead W q) g 0 ((List.range n).map (fun x : Nat => (x : Int))).toArray).heap.size = W.heap.size := by simp [putRow, Sort.mapBlock, Sort.ahead]
  have hgr : Below W.heap.size (putRow (Value.int .i64) (Sort.ahead W q) g 0 ((List.range n).map (fun x : Nat => (x : Int))).toArray) (grow (putRow (Value.int .i64) (Sort.ahead W q) g 0 ((List.range n).map (fun x : Nat => (x : Int))).toArray) os) := below_grow' (Below.refl _ _) (by rw [hsz]; exact Nat.le_refl _) os
  refine ⟨rfl, fun k v hk => ?_, below_grow' hbb (by rw [hsz]; omega) os⟩
  rw [List.getElem?_map] at hk
  rcases Nat.lt_or_ge k n with hkn | hkn
  · rw [List.getElem?_range hkn] at hk
    injection hk with hk
    subst hk
    have h5 := (hp k (by simpa using hkn)).1
    rw [getElem!_pos ((List.range n).map (fun x : Nat => (x : Int))).toArray k (by simpa using hkn)] at h5
    refine ⟨g, 0, rfl, Nat.lt_of_lt_of_le hgl (by have := hgr.size; omega), ?_⟩
    rw [hgr.cell (p := ⟨g, 0 + k, none⟩) hgl, h5]
    simp [nz]
  · rw [List.getElem?_eq_none (by simpa using hkn)] at hk; cases hk
/-- The numbers below n, in order. -/
def RangeOut (n : Nat) (W : World) (e : Ending) (W' : World) : Prop := ∃ A c, e = .returned (.slice A n c) ∧ Reads W' A ((List.range n).map nz) ∧ Below W.heap.size W W'
set_option maxHeartbeats 1000000 in
theorem sorted_c (B g : Nat) (l : List Nat) (n c : Nat) (hl : Full l n) (h0 : 0 < n) (hb : n ≤ 1000) (w : World)
    (h1 : Boxed w B 22 (.slice (some ⟨g, 0, none⟩) n c)) (h2 : Cells w g 3 nz l) :
    Calls Try.prog 19 #[seqV B] w (RangeOut n w) := by
  have K := Lib.hid (collect_c B g l n c hl.len hb w h1 h2)
  have SC := Lib.hid (fun A c' V (hT : Stripe.ITab V w.heap.size (.slice A n c') l) => sort_c w.heap.size A l n c' V hl h0 hb hT)
  clear h1 h2 hl
  go_enter Try.func19, Try.ntmps19
  go_wp2_with fail
  refine K.out.mono ?_
  rintro e w1 ⟨A, c', rfl, hr, hb1⟩
  have HS := Lib.hid (SC.out A c' w1 hr)
  have HB := Lib.hid hb1
  clear hr hb1
  go_wp2_with fail
  refine HS.out.mono ?_
  rintro e w2 ⟨rfl, hr2, hb2⟩
  have HR := Lib.hid hr2
  have HB2 := Lib.hid (HB.out.trans hb2)
  clear hr2 hb2
  go_wp2
  go_ret
  exact ⟨A, c', rfl, HR.out, HB2.out⟩
end Go.Proofs.Ytahhgeecikljdaa.Tb
