/-
  MixTells: for every two 64-bit words x and y and every string s, the law MixTells answers true (One, Back, Two and Text return what the document says, reckoned by big numbers), and its arguments read afterwards as before. No condition.
-/
import Derived.Test.YtimbibphpaibiaaBigText
import Derived.Test.YtimbibphpaibiaaLaw
namespace Go.Proofs.Ytimbibphpaibiaa.mixTells
open Go.ChangeShapes Go.WideShapes Go.ChangeAt Go.RowKit
open Mix Big
set_option linter.unusedVariables false

theorem eqt (x : UInt64) : ((x.toNat : Int) == (x.toNat : Int)) = true := beq_self_eq_true _
theorem one_back_a (x : UInt64) (W : World) :
    Calls Try.prog 10 #[.int .u64 (back x).toNat] W fun e W' => e = .returned (.int .u64 x.toNat) ∧ Below W.heap.size W W' := by
  have h := aOne_c (back x) W
  rwa [one_back] at h
theorem two_a (x y : UInt64) (W : World) :
    Calls Try.prog 10 #[.int .u64 (Words.add (one x) y).toNat] W fun e W' => e = .returned (.int .u64 (two x y).toNat) ∧ Below W.heap.size W W' := aOne_c (Words.add (one x) y) W
theorem add_nat (x y : UInt64) : (x.toNat + y.toNat) % 18446744073709551616 = (Words.add x y).toNat := by unfold Words.add; rw [UInt64.toNat_add]
theorem len_sum (x y : UInt64) : (digs (x.toNat + y.toNat)).length ≤ 3 := digs_len (k := 3) (by have := x.toNat_lt; have := y.toNat_lt; omega)

set_option maxHeartbeats 2000000 in
theorem words (x y : UInt64) (s : ByteArray) (hs : s.size ≤ maxLen) (W : World) :
    Calls Try.prog 3 #[.int .u64 x.toNat, .int .u64 y.toNat, .string s] W (Law.Yes W) := by
  have HH := Lib.hid hs
  clear hs
  go_enter Try.func3, Try.ntmps3
  go_wp2_with fail
  have s0 := Slot.new W
  have b0 : Below W.heap.size W (W.alloc (.cells #[.bool false, .slice none 0 0] 27)) := (Below.refl _ _).alloc (Nat.le_refl _) _
  refine (aOne_c x _).mono ?_
  rintro e w1 ⟨rfl, k1⟩
  have b1 := b0.trans (k1.mono b0.size)
  have s1 := s0.below k1
  clear s0 b0 k1
  go_wp2_with fail
  refine (aBig_c (one x) w1).mono ?_
  rintro e w2 ⟨p, rfl, hp, k2, n2⟩
  have b2 := b1.trans (k2.mono b1.size)
  have s2 := s1.below k2
  clear s1 b1 k2
  go_wp2_with fail
  refine (aBig_c y w2).mono ?_
  rintro e w3 ⟨q, rfl, hq, k3, n3⟩
  have b3 := b2.trans (k3.mono b2.size)
  have s3 := s2.below k3
  have m3 := n2.below k3
  clear s2 b2 k3 n2
  go_wp2_with fail
  refine (add_c W.heap.size p q _ _ w3 s3 m3 n3 (Nat.le_trans (Nat.add_le_add_right (len_word _) 1) (by omega)) (Nat.le_trans (Nat.add_le_add_right (len_word _) 1) (by omega))).mono ?_
  rintro e w4 ⟨rfl, g4, n4⟩
  have b4 := b3.trans (below_of_new g4 (Nat.le_refl _) b3.size)
  clear s3 b3 g4 n3 m3
  go_wp2_with fail
  refine (aMod_c W.heap.size _ w4 n4 (Nat.le_trans (Nat.add_le_add_right (len_sum _ _) 1) (by omega))).mono ?_
  rintro e w5 ⟨r, rfl, hr, k5, n5⟩
  rw [add_nat] at n5
  have b5 := b4.trans (k5.mono b4.size)
  clear b4 k5 n4
  go_wp2_with fail
  refine (one_c x w5).mono ?_
  rintro e w' ⟨rfl, rfl⟩
  go_wp2_with fail
  refine (aOne_c x w5).mono ?_
  rintro e w6 ⟨rfl, k6⟩
  have b6 := b5.trans (k6.mono b5.size)
  have n6 := n5.below k6
  clear b5 k6 n5
  go_wp2_with fail
  refine (back_c x w6).mono ?_
  rintro e w' ⟨rfl, rfl⟩
  go_wp2_with fail
  refine (one_back_a x w6).mono ?_
  rintro e w7 ⟨rfl, k7⟩
  have b7 := b6.trans (k7.mono b6.size)
  have n7 := n6.below k7
  clear b6 k7 n6
  go_wp2_with fail
  refine (two_c x y w7).mono ?_
  rintro e w' ⟨rfl, rfl⟩
  go_wp2_with fail
  refine (uint64_c r _ w7 n7).mono ?_
  rintro e w' ⟨rfl, rfl⟩
  go_wp2_with fail
  refine (two_a x y w7).mono ?_
  rintro e w8 ⟨rfl, k8⟩
  have b8 := b7.trans (k8.mono b7.size)
  clear b7 k8 n7
  go_wp2_with fail
  refine (text_c s w8 HH.out).mono ?_
  rintro e w' ⟨rfl, rfl⟩
  go_wp2_with fail
  refine (aText_c s w8 HH.out).mono ?_
  rintro e w9 ⟨rfl, k9⟩
  have B := Lib.hid (b8.trans (k9.mono b8.size))
  clear b8 k9
  go_wp2_with fail
  go_ret
  exact ⟨rfl, B.out⟩

theorem walk (a0 : Int) (w0 : (Lit.int .u64 a0).wf = true) (a1 : Int) (w1 : (Lit.int .u64 a1).wf = true) (s : ByteArray) (hs : s.size ≤ maxLen) (W : World) :
    Calls Try.prog 3 #[.int .u64 a0, .int .u64 a1, .string s] W (Law.Yes W) := by
  obtain ⟨x, rfl⟩ := Words.of_wf64 w0
  obtain ⟨y, rfl⟩ := Words.of_wf64 w1
  exact words x y s hs W
theorem own : ownKnob Try.prog.godebug = none := by kernel_rfl
theorem laid : laidOutB Try.prog = true := by kernel_rfl
theorem pars : ∀ t ∈ Try.f3.params.toList, Try.prog.readableRec t = true ∧ t < Try.prog.types.size := by
  have h : Try.f3.params.toList.all (fun t => Try.prog.readableRec t && decide (t < Try.prog.types.size)) = true := by kernel_rfl
  intro t ht; have := List.all_eq_true.1 h t ht; simpa using this
theorem calls (H : Type) (enc : TypeId × Value → H) (W : World) (base : Nat) (args : Array Value) (ds : List (DataW H)) (before : List MemPlace)
    (hval : ∀ (j : Nat) t v, Try.f3.params[j]? = some t → args[j]? = some v → Value.okWide Try.prog W .any base t v)
    (hA : DataW.TrodAll enc Try.prog W 0 (fun _ => true) true Try.f3.params.toList args.toList ds before) :
    Calls Try.prog 3 args W (Law.Yes W) := by
  rw [Try.params3] at hA hval
  obtain ⟨v0, vs0, d0, ds0, p0, q0, hargs, rfl, rfl, h0, r0⟩ := trodAll_cons hA
  obtain ⟨v1, vs1, d1, ds1, p1, q1, rfl, rfl, rfl, h1, r1⟩ := trodAll_cons r0
  obtain ⟨v2, vs2, d2, ds2, p2, q2, rfl, rfl, rfl, h2, r2⟩ := trodAll_cons r1
  obtain ⟨rfl, rfl, rfl⟩ := trodAll_nil r2
  obtain rfl : args = #[v0, v1, v2] := by cases args; simp_all
  obtain ⟨a0, rfl, rfl, rfl, w0⟩ := open_int Try.underlying22 (hval 0 22 v0 rfl rfl) h0
  obtain ⟨a1, rfl, rfl, rfl, w1⟩ := open_int Try.underlying22 (hval 1 22 v1 rfl rfl) h1
  obtain ⟨s2, rfl, rfl, rfl, z2⟩ := Go.ChangeMaps.open_string Try.underlying9 (hval 2 9 v2 rfl rfl) h2
  exact walk a0 w0 a1 w1 s2 z2 W
theorem fnOf (H : Type) : ∀ ds : List (DataW H), ds.length = Try.f3.params.toList.length → Rows.mixTellsSpec.fn H ds = { results := [.lit (.bool true)], args := ds } := by
  intro ds h
  have h : ds.length = 3 := h
  obtain _ | ⟨x0, ds⟩ := ds
  · simp at h
  obtain _ | ⟨x1, ds⟩ := ds
  · simp at h
  obtain _ | ⟨x2, ds⟩ := ds
  · simp at h
  obtain rfl : ds = [] := List.eq_nil_of_length_eq_zero (by simpa using h)
  rfl
set_option maxRecDepth 100000 in
theorem lifted (os : Os) (started : os.Started) (H : Type) (enc : TypeId × Value → H) :
    ReturnsInHanded {} Try.checked os 3 .any (Rows.mixTellsSpec.pre6 enc Try.prog Try.f3 Rows.mixTellsRow.domain false) (Rows.mixTellsSpec.post enc Try.prog Try.f3 false true false false) := by
  refine returnsInHanded_of_change (C := Try.checked) own started (by kernel_rfl) Try.func3
    (ChangeSpec.witness6 (enc := enc) (C := Try.checked) false ⟨#[], #[.int .u64 0, .int .u64 0, .string ⟨#[]⟩], []⟩ 8 (by kernel_rfl) (by kernel_rfl) (by kernel_rfl) (by kernel_rfl)) ?_
  intro W base args ds gs before hval hW _ _
  obtain ⟨p, q, hA, hV, rfl, hfz, hnd⟩ := id hW
  obtain ⟨rfl, rfl⟩ := trodVars_none hV
  exact Law.ending (C := Try.checked) (s := Rows.mixTellsSpec) laid pars rfl Try.underlying4 rfl (fnOf H) hW (calls H enc W base args ds p hval hA)
theorem over : Rows.mixTellsRow.holds Try.pinned (OpenSpec.ofChange Rows.mixTellsSpec) :=
  OpenClaim.holds_of_wide 3 Try.f3 rfl rfl rfl rfl rfl rfl rfl ⟨rfl, rfl, rfl, rfl, rfl⟩ rfl rfl rfl rfl rfl (by kernel_rfl) Try.func3 (by kernel_rfl)
    (of_decide_eq_true (by kernel_rfl)) (by unfold Func.isWrapper; first | (rw [if_pos (by decide +kernel)]; kernel_rfl) | (rw [if_neg (by decide +kernel)]; exact ⟨rfl, rfl⟩))
    (fun os started H enc _ => lifted os started H enc)
theorem proved : Rows.MixTellsSaid := over
end Go.Proofs.Ytimbibphpaibiaa.mixTells
