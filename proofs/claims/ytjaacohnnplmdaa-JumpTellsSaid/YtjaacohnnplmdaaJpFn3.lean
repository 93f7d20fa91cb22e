/-
  The program's Bucket: the last of the iterator's buckets.
-/
import Derived.Test.YtjaacohnnplmdaaJpFn2
namespace Go.Proofs.Ytjaacohnnplmdaa.Jump
set_option linter.unusedVariables false
set_option linter.unusedSimpArgs false
open Go.RowKit Mem

section
attribute [local go_sem] Oper.semAt_some
/-- The last of the numbers that have come; 0 if none has. -/
def lastOf (l : List Nat) : Nat := l.getLast?.getD 0
theorem lastOf_snoc (l : List Nat) (x : Nat) : lastOf (l ++ [x]) = x := by simp [lastOf]
theorem lastOf_bkl {key : UInt64} {m : Nat} (h : 1 ≤ m) : lastOf (bkl key (cnt key m)) = last key m := by
  have h0 := cnt_pos (key := key) h
  obtain ⟨k, hk⟩ : ∃ k, cnt key m = k + 1 := ⟨cnt key m - 1, by omega⟩
  unfold last
  rw [hk, bkl_succ, lastOf_snoc, Nat.add_sub_cancel]
set_option maxRecDepth 100000 in
set_option maxHeartbeats 2000000 in
theorem bucket_good (key : UInt64) (m : Nat) (h1 : 1 ≤ m) (h2 : m ≤ 1048576) (w : World) :
    Calls Try.prog 7 #[.int .u64 key.toNat, .int .i64 (m : Int)] w (Gave (.tuple #[.int .i64 (last key m : Int), .int .i64 0]) w) := by
  have hE : errJ (m : Int) = 0 := errJ_zero.2 ⟨by omega, by omega⟩
  have WR := wrongNumber_c (m : Int) w
  rw [show decide (errJ (m : Int) = 2) = false by rw [hE]; rfl] at WR
  have WR := Lib.hid WR
  have LB := Lib.hid (lastOf_bkl (key := key) h1)
  clear hE
  refine (callsIn_wide (n := 3)).1 ?_
  refine callsIn_of_wp_marks Try.func7 rfl trivial ?_ rfl
  simp only [Try.ntmps7, List.size_toArray, List.length_cons, List.length_nil, Nat.reduceAdd, Nat.reduceSub, Array.replicate_succ, Array.replicate_zero, List.push_toArray, List.append_toArray, List.nil_append, List.cons_append]
  gi_wp2_with (refine ⟨trivial, ?_⟩; first
    | (gi_at_call 13; refine (callsIn_wide.2 WR.out).mono ?_; rintro e w' ⟨rfl, rfl⟩)
    | (gi_at_call 14; refine (callsIn_wide.2 (visited_c key m _)).mono ?_; rintro e w' ⟨rfl, rfl⟩))
  clear WR
  have b1 := Boxed.new w' 3 (.int .i64 0)
  have b2 := Boxed.new (w'.alloc (.cells #[.int .i64 0] 3)) 22 (.int .u64 key.toNat)
  have b3 := Boxed.new ((w'.alloc (.cells #[.int .i64 0] 3)).alloc (.cells #[.int .u64 key.toNat] 22)) 3 (.int .i64 (m : Int))
  rw [World.size_alloc] at b2
  rw [World.size_alloc, World.size_alloc] at b3
  have ST := Lib.hid (steps_stops 2 (by omega) (w'.heap.size + 1) (w'.heap.size + 1 + 1) key m h2 _ (b2.alloc _) b3)
  have hB0 : Below w'.heap.size w' (((w'.alloc (.cells #[.int .i64 0] 3)).alloc (.cells #[.int .u64 key.toNat] 22)).alloc (.cells #[.int .i64 (m : Int)] 3)) :=
    (((Below.refl _ w').alloc (Nat.le_refl _) _).alloc (by simp) _).alloc (by simp; omega) _
  refine wpIn_rangeFunc_ownG rfl (by omega) (gf := 27) (lb := #[.pointer (some ⟨w'.heap.size + 1, 0, none⟩), .pointer (some ⟨w'.heap.size + 1 + 1, 0, none⟩)]) rfl trivial (enters_of Try.func27 (by kernel_rfl) rfl)
    ST.out kept_t (kept_b (by simp) (by simp)) (Below.refl _ _) (fun _ => rfl)
    (fun (pre : List Nat) W => Boxed W w'.heap.size 3 (.int .i64 (lastOf pre : Int)) ∧ Below w'.heap.size w' W)
    (fun _ _ _ => False)
    (OwnFrom.and (Own.from (boxed_own w'.heap.size 3 (fun (pre : List Nat) => .int .i64 (lastOf pre : Int))) _) (ownFrom_below (Nat.le_refl _) (by simp; omega)))
    (fun _ _ _ _ _ hs _ _ => hs)
    ⟨(b1.alloc _).alloc _, hB0⟩
    (fun x => { tmps := #[.int .u64 key.toNat, .int .i64 (m : Int), undef, undef, .int .i64 0, .int .i64 0, .pointer (some ⟨w'.heap.size, 0, none⟩), .int .i64 (x : Int), .int .i64 (m : Int), .bool false, .int .u64 key.toNat, .int .i64 (m : Int), seqV (w'.heap.size + 1) (w'.heap.size + 1 + 1), .int .i64 (x : Int), undef, undef], defers := [] }) ?assign ?body ?done ?stop
  case assign =>
    intro l x W K hK
    gi_wp2
    exact hK
  case body =>
    rintro l pre x W ⟨hv, hB⟩ hlt
    have hc := hv.cell
    have hf := hv.frozen
    gi_wp2
    exact ⟨(KeepsOthers.setCell _ _ _).from _, ⟨Below.heap_setCell W ⟨w'.heap.size, 0, none⟩ _ _ (by simp), Below.heap_setCell W ⟨w'.heap.size, 0, none⟩ _ _ (by show ¬ w'.heap.size + 1 + 1 = w'.heap.size; omega)⟩, by rw [lastOf_snoc]; exact hv.set _, hB.setCell (p := ⟨w'.heap.size, 0, none⟩) (Nat.le_refl _) _⟩
  case done =>
    rintro D ys W hD rfl ⟨hv, hB⟩ hK
    have hc := hv.cell
    rw [LB.out] at hc
    gi_wp2
    refine ⟨by simp, .inl ⟨_, _, rfl, run_takeDeferred hK, ?_⟩⟩
    exact ⟨_, results_tmp2 rfl _ _ _, rfl, hB.trans (belowK_b (w := w') (Nat.le_refl _) W D _ _ (by simp at hD; omega) hK rfl rfl)⟩
  case stop =>
    rintro D c pre W _ _ h _
    exact h.elim
end
set_option maxHeartbeats 1000000 in
theorem bucket_spec : BucketSpec := by
  intro key many W
  rcases errJ_vals many with h | h
  · obtain ⟨m, rfl, h1, h2⟩ := ok_nat h
    rw [(lastJ_ok (key := key) h1 h2).1, h]
    exact bucket_good key m h1 h2 W
  · have WR := wrongNumber_c many W
    rw [show decide (errJ many = 2) = true by rw [h]; rfl] at WR
    have WR := Lib.hid WR
    have L := Lib.hid (show lastJ key many = 0 by unfold lastJ; rw [if_neg (by rw [h]; decide)])
    rw [L.out, h]
    clear h
    go_enter Try.func7, Try.ntmps7
    go_wp2_with fail
    refine WR.out.mono ?_
    rintro e w1 ⟨rfl, rfl⟩
    go_wp2
    go_ret2
    exact ⟨rfl, Below.refl _ _⟩
end Go.Proofs.Ytjaacohnnplmdaa.Jump
