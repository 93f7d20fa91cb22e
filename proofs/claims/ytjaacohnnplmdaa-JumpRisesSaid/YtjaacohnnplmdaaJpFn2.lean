/-
  The program's Jumps: the iterator's buckets, collected.
-/
import Derived.Test.YtjaacohnnplmdaaJpIt
namespace Go.Proofs.Ytjaacohnnplmdaa.Jump
set_option linter.unusedVariables false
set_option linter.unusedSimpArgs false
open Go.RowKit Mem

section
attribute [local go_sem] Oper.semAt_some
/-- The iterator's value: what it has captured lies in two blocks. -/
def seqV (B1 B2 : Nat) : Value := .func (.func 27) #[] #[.pointer (some ⟨B1, 0, none⟩), .pointer (some ⟨B2, 0, none⟩)]
theorem steps_stops (n : Nat) (hn : 1 ≤ n) (B1 B2 : Nat) (key : UInt64) (m : Nat) (hm : m ≤ 1048576) (w : World)
    (h1 : Boxed w B1 22 (.int .u64 key.toNat)) (h2 : Boxed w B2 3 (.int .i64 (m : Int))) :
    SeqStopsK Fence.wide n Try.prog 27 #[.pointer (some ⟨B1, 0, none⟩), .pointer (some ⟨B2, 0, none⟩)] (fun x : Nat => #[Value.int .i64 (x : Int)]) (Kept B1 B2)
      (fun ys => ys = bkl key (cnt key m)) (fun _ => True) (cnt key m) w := fun l J Jx W hW _ _ hY h0 =>
  steps_in n hn l B1 B2 key m hm J Jx hY W ((hW.block B1 h1.lt).trans h1) ((hW.block B2 h2.lt).trans h2) h0
/-- What an append of the iterator's buckets gives. -/
def Took (l : List Nat) (W : World) (e : Ending) (W' : World) : Prop :=
  ∃ A c, e = .returned (.slice A l.length c) ∧ Reads W' A (l.map Stripe.nat64) ∧ Below W.heap.size W W'
set_option maxRecDepth 100000 in
set_option maxHeartbeats 2000000 in
theorem appendSeq_c (B1 B2 : Nat) (key : UInt64) (m : Nat) (hm : m ≤ 1048576) (w : World)
    (h1 : Boxed w B1 22 (.int .u64 key.toNat)) (h2 : Boxed w B2 3 (.int .i64 (m : Int))) :
    Calls Try.prog 29 #[.slice none 0 0, seqV B1 B2] w (Took (bkl key (cnt key m)) w) := by
  have hcm := cnt_le key m
  obtain ⟨i0, hi, hz0, hz1, hz2⟩ := info_parts Stripe.infoI
  have hlt1 := h1.lt
  have hlt2 := h2.lt
  have ST := Lib.hid (steps_stops 2 (by omega) B1 B2 key m hm (w.alloc (.cells #[.slice none 0 0] 26)) (h1.alloc _) (h2.alloc _))
  clear h1 h2
  refine (callsIn_wide (n := 3)).1 ?_
  refine callsIn_of_wp_marks Try.func29 rfl trivial ?_ rfl
  simp only [Try.ntmps29, List.size_toArray, List.length_cons, List.length_nil, Nat.reduceAdd, Nat.reduceSub, Array.replicate_succ, Array.replicate_zero, List.push_toArray, List.append_toArray, List.nil_append, List.cons_append]
  gi_wp2
  have bO := Boxed.new w 26 (.slice none 0 0)
  have hB0 : Below w.heap.size w (w.alloc (.cells #[.slice none 0 0] 26)) := (Below.refl _ w).alloc (Nat.le_refl _) _
  refine wpIn_rangeFunc_ownG rfl (by omega) (gf := 27) (lb := #[.pointer (some ⟨B1, 0, none⟩), .pointer (some ⟨B2, 0, none⟩)]) rfl trivial (enters_of Try.func27 (by kernel_rfl) rfl)
    ST.out kept_t (kept_b (by simp; omega) (by simp; omega)) (Below.refl _ _) (fun _ => rfl)
    (fun (pre : List Nat) W => (∃ v, Boxed W w.heap.size 26 v ∧ W.ownsRow w.heap.size 3 1 v pre.length (pre.map Stripe.nat64) ∧ True) ∧ Below w.heap.size w W)
    (fun _ _ _ => False)
    (OwnFrom.and (Own.from (holdsRow_own w.heap.size w.heap.size 26 3 1 (fun (pre : List Nat) => pre.length) (fun (pre : List Nat) => pre.map Stripe.nat64) (fun _ _ => True)) _) (ownFrom_below (Nat.le_refl _) (by simp)))
    (fun _ _ _ _ _ hs _ _ => hs)
    ⟨⟨_, bO, World.ownsRow_nil _ _ _ _, trivial⟩, hB0⟩
    (fun x => { tmps := #[.slice none 0 0, seqV B1 B2, .pointer (some ⟨w.heap.size, 0, none⟩), undef, .slice none 0 0, .int .i64 (x : Int), seqV B1 B2, .int .i64 (x : Int), undef, undef, undef, undef, undef], defers := [] }) ?assign ?body ?done ?stop
  case assign =>
    intro l x W K hK
    gi_wp2
    exact hK
  case body =>
    rintro l pre x W ⟨⟨v, hv, hrow, _⟩, hB⟩ hlt
    have hc := hv.cell
    gi_wp2_with (gi_at_builtin; refine wpListIn_append_own _ rfl _ _ 26 rfl w.heap.size 3 i0 (.int .i64 0) 1 8 Try.underlying26 hi hz0 hz1 hz2 rfl (by decide) _ _ _ rfl (hrow.alloc _) ⟨W.heap.size, 0, none⟩ 1 1 [.int .i64 (x : Int)] rfl rfl (cell_one_new _ _ _) (by simp [Value.oneCell']) (by unfold maxLen; omega) (by omega) (by have := hB.size; simp; omega) ?_; intro v' w1 hown' hgrow _; obtain ⟨g', cap', rfl⟩ := ownsRow_succ hown'; obtain ⟨hv1, hv2, hr2, hk2, hb2⟩ := hv.appended (by decide) hrow hB.size (Nat.le_refl _) hown' hgrow; have hc1 := hv1.cell; have hf1 := hv1.frozen)
    exact ⟨hk2.from _, kept_below hb2 hlt1 hlt2, ⟨_, hv2, by simpa [Stripe.nat64] using hr2, trivial⟩, hB.trans hb2⟩
  case done =>
    rintro D ys W hD rfl ⟨⟨v, hv, hrow, _⟩, hB⟩ hK
    have hc := hv.cell
    gi_wp2
    refine ⟨by simp, .inl ⟨_, _, rfl, run_takeDeferred hK, ?_⟩⟩
    have HR := ownsRow_putObj hrow (.deferred none) hK rfl
    have HG : Stripe.ITab (W.putObj D (.deferred none)) w.heap.size v (bkl key (cnt key m)) := by
      unfold Stripe.ITab Grows
      rw [List.length_map]; exact HR
    obtain ⟨A, c, hvv, _, _⟩ := HG.form
    subst hvv
    exact ⟨_, results_tmp rfl _ _ _, A, c, rfl, HG.reads, hB.trans (belowK_b (w := w) (Nat.le_refl _) W D _ _ (by simp at hD; omega) hK rfl rfl)⟩
  case stop =>
    rintro D c pre W _ _ h _
    exact h.elim
end
set_option maxHeartbeats 1000000 in
theorem collect_c (B1 B2 : Nat) (key : UInt64) (m : Nat) (hm : m ≤ 1048576) (w : World)
    (h1 : Boxed w B1 22 (.int .u64 key.toNat)) (h2 : Boxed w B2 3 (.int .i64 (m : Int))) :
    Calls Try.prog 15 #[seqV B1 B2] w (Took (bkl key (cnt key m)) w) := by
  have K := Lib.hid (appendSeq_c B1 B2 key m hm w h1 h2)
  clear h1 h2
  generalize bkl key (cnt key m) = l at *
  go_enter Try.func15, Try.ntmps15
  go_wp2_with fail
  refine K.out.mono ?_
  rintro e w1 ⟨A, c, rfl, hr, hb⟩
  have HR := Lib.hid hr
  have HB := Lib.hid hb
  clear hr hb
  go_wp2
  go_ret
  exact ⟨A, c, rfl, HR.out, HB.out⟩
set_option maxHeartbeats 1000000 in
theorem jumps_spec : JumpsSpec := by
  intro key many W
  have WR := Lib.hid (wrongNumber_c many W)
  rcases errJ_vals many with h | h
  · obtain ⟨m, rfl, h1, h2⟩ := ok_nat h
    rw [show decide (errJ (m : Int) = 2) = false by rw [h]; rfl] at WR
    have VI := Lib.hid (visited_c key m W)
    have HL := Lib.hid (show (listJ key m).length = (bkl key (cnt key m)).length ∧ (listJ key m).map (Value.int .i64) = (bkl key (cnt key m)).map Stripe.nat64 by
      rw [listJ_ok h1 h2]; exact ⟨by rw [jumps_len, bkl_len], (bkl_all key m).symm⟩)
    have C1 := Lib.hid (collect_c W.heap.size (W.heap.size + 1) key m h2 ((W.alloc (.cells #[.int .u64 key.toNat] 22)).alloc (.cells #[.int .i64 (m : Int)] 3)) ((Boxed.new W _ _).alloc _)
      (by have := Boxed.new (W.alloc (.cells #[.int .u64 key.toNat] 22)) 3 (.int .i64 (m : Int)); rwa [World.size_alloc] at this))
    have B0 := Lib.hid (show Below W.heap.size W ((W.alloc (.cells #[.int .u64 key.toNat] 22)).alloc (.cells #[.int .i64 (m : Int)] 3)) from ((Below.refl _ W).alloc (Nat.le_refl _) _).alloc (by simp) _)
    rw [h]
    clear h
    unfold seqV at C1
    go_enter Try.func8, Try.ntmps8
    go_wp2_with fail
    refine WR.out.mono ?_
    rintro e w1 ⟨rfl, rfl⟩
    go_wp2_with fail
    refine VI.out.mono ?_
    rintro e w2 ⟨rfl, rfl⟩
    go_wp2_with fail
    refine C1.out.mono ?_
    rintro e w3 ⟨A, c, rfl, hr, hb⟩
    have FIN := Lib.hid (show Reads w3 A ((listJ key m).map (Value.int .i64)) ∧ Below w1.heap.size w1 w3 by
      refine ⟨by rw [HL.out.2]; exact hr, B0.out.trans (hb.mono B0.out.size)⟩)
    have LL := Lib.hid HL.out.1
    generalize (bkl key (cnt key m)).length = k at *
    clear hr hb HL C1 B0 VI WR
    go_wp2
    go_ret2
    refine ⟨A, c, ?_, FIN.out.1, FIN.out.2⟩
    rw [LL.out]
    rfl
  · rw [show decide (errJ many = 2) = true by rw [h]; rfl] at WR
    have L := Lib.hid (listJ_bad (key := key) h)
    rw [L.out, h]
    clear h
    go_enter Try.func8, Try.ntmps8
    go_wp2_with fail
    refine WR.out.mono ?_
    rintro e w1 ⟨rfl, rfl⟩
    go_wp2
    go_ret2
    exact ⟨none, 0, rfl, fun k v hk => by simp at hk, Below.refl _ _⟩
end Go.Proofs.Ytjaacohnnplmdaa.Jump
