/-
  The statement on rising buckets, over what it takes of the program.
-/
import Derived.Test.YtjaacohnnplmdaaJpSpec
import Derived.Test.YtjaacohnnplmdaaJpFn3
namespace Go.Proofs.Ytjaacohnnplmdaa.Jump
set_option linter.unusedVariables false
set_option linter.unusedSimpArgs false
open Go.RowKit Mem

set_option maxHeartbeats 1000000 in
theorem rises_bad (kv many at_ : Int) (W : World) (HA : ∀ V, Calls Try.prog 11 #[] V (Law.Yes V))
    (h1 : ∀ V, Calls Try.prog 8 #[.int .u64 kv, .int .i64 many] V fun e w => ∃ A c, e = .returned (.tuple #[.slice A 0 c, .int .i64 2]) ∧ Below V.heap.size V w) :
    Calls Try.prog 5 #[.int .u64 kv, .int .i64 many, .int .i64 at_] W (Law.Yes W) := by
  have K1 := Lib.hid h1
  have KA := Lib.hid HA
  clear h1 HA
  go_enter Try.func5, Try.ntmps5
  go_wp2_with fail
  refine (KA.out _).mono ?_
  rintro e w0 ⟨rfl, hb0⟩
  go_wp2_with fail
  refine (K1.out _).mono ?_
  rintro e w1 ⟨A, c, rfl, hb1⟩
  have B1 := Lib.hid (hb0.trans (hb1.mono hb0.size))
  clear hb0 hb1
  go_wp2
  go_ret
  exact ⟨rfl, B1.out⟩
/-- What the walk takes of the jumps: f their values, n how many. -/
structure Ups (f : Nat → Nat) (n : Nat) : Prop where
  pos : 0 < n
  small : n ≤ 1048576
  zero : f 0 = 0
  up : ∀ i, f i < f (i + 1)
  less : ∀ i, i < n → f i < 1048576
set_option maxRecDepth 100000 in
set_option maxHeartbeats 4000000 in
theorem rises_good (kv many at_ : Int) (f : Nat → Nat) (n : Nat) (U : Ups f n) (W : World) (HA : ∀ V, Calls Try.prog 11 #[] V (Law.Yes V))
    (h1 : ∀ V, Calls Try.prog 8 #[.int .u64 kv, .int .i64 many] V fun e w => ∃ g o c, e = .returned (.tuple #[.slice (some ⟨g, o, none⟩) n c, .int .i64 0]) ∧ (∀ i, i < n → w.cell? ⟨g, o + i, none⟩ = some (.int .i64 (f i))) ∧ g < w.heap.size ∧ Below V.heap.size V w)
    (h2 : ∀ k, k < n → ∀ V, Calls Try.prog 7 #[.int .u64 kv, .int .i64 ((f k + 1 : Nat) : Int)] V (Gave (.tuple #[.int .i64 (f k), .int .i64 0]) V))
    (h3 : ∀ k, k + 1 < n → ∀ V, Calls Try.prog 7 #[.int .u64 kv, .int .i64 (f (k + 1))] V (Gave (.tuple #[.int .i64 (f k), .int .i64 0]) V)) :
    Calls Try.prog 5 #[.int .u64 kv, .int .i64 many, .int .i64 at_] W (Law.Yes W) := by
  have K1 := Lib.hid h1
  have K2 := Lib.hid h2
  have K3 := Lib.hid h3
  have KA := Lib.hid HA
  have n1 := U.pos
  have n2 := U.small
  have HU := Lib.hid U
  have n3 : ((n : Int) == 0) = false := by rw [beq_eq_false_iff_ne]; omega
  clear h1 h2 h3 HA U
  go_enter Try.func5, Try.ntmps5
  go_wp2_with fail
  refine (KA.out _).mono ?_
  rintro e w0 ⟨rfl, hb0⟩
  go_wp2_with fail
  refine (K1.out _).mono ?_
  rintro e w1 ⟨g, o, c, rfl, hc, hg, hb1⟩
  have B1 := Lib.hid (hb0.trans (hb1.mono hb0.size))
  have HC := Lib.hid hc
  clear hb0 hb1 hc
  go_wp2
  go_loopw [9] (fun i wr => ∃ j : Nat, 1 ≤ j ∧ j ≤ n ∧ i = .int .i64 j ∧ Below w1.heap.size w1 wr) (fun i _ => n - (intOf i).toNat)
  case atStart => exact ⟨1, by omega, by omega, rfl, Below.refl _ _⟩
  case round =>
    obtain ⟨j, hj1, hj2, rfl, hB⟩ := hrel
    have HB := Lib.hid hB
    have cell : ∀ i, i < n → wr.cell? ⟨g, o + i, none⟩ = some (.int .i64 (f i)) := fun i hi => (hB.cell (p := ⟨g, o + i, none⟩) hg).trans (HC.out i hi)
    have CE := Lib.hid cell
    clear cell hB
    rcases Nat.lt_or_ge j n with hj | hj
    · obtain ⟨m, hm⟩ : ∃ m, j = m + 1 := ⟨j - 1, by omega⟩
      have c1 := CE.out j hj
      have c0 := CE.out m (by omega)
      have e2 : IntKind.i64.wrap ((j : Int) - 1) = (m : Int) := by rw [show (j : Int) - 1 = m by omega]; exact IntWalk.i64_in _ (by omega)
      have e1 : IntKind.i64.wrap ((j : Int) + 1) = ((j + 1 : Nat) : Int) := IntWalk.i64_in _ (by omega)
      have d1 : decide ((f j : Int) ≤ (f m : Int)) = false := decide_eq_false (by have := HU.out.up m; rw [← hm] at this; omega)
      have d1' : decide (f j ≤ f m) = false := decide_eq_false (by have := HU.out.up m; rw [← hm] at this; omega)
      have i1 : (j : Int) < (n : Int) := by omega
      have i2 : (m : Int) < (n : Int) := by omega
      have HM := Lib.hid hm
      clear hm
      generalize f j = fj at *
      generalize f m = fm at *
      go_wp2
      go_quiet (fail)
      go_wp2
      go_roundw
      case rel => exact ⟨j + 1, by omega, by omega, by first | rfl | (congr 1), below_drewN HB.out _⟩
      case measure => simp [intOf]; omega
    · obtain rfl : j = n := by omega
      have B2 := Lib.hid (B1.out.trans (HB.out.mono B1.out.size))
      by_cases hlow : at_ < 0
      · have c0 : wr.cell? ⟨g, o, none⟩ = some (.int .i64 0) := by
          have := CE.out 0 n1
          rw [HU.out.zero] at this
          exact this
        have d0 : decide (at_ < 0) = true := decide_eq_true hlow
        have d1 : decide ((j : Int) > 0) = true := decide_eq_true (by omega)
        have d2 : decide ((0 : Int) < (j : Int)) = true := decide_eq_true (by omega)
        have d2' : decide (0 < j) = true := decide_eq_true (by omega)
        go_wp2
        go_ret
        exact ⟨rfl, B2.out⟩
      by_cases hhi : (j : Int) ≤ at_
      · have c0 : wr.cell? ⟨g, o, none⟩ = some (.int .i64 0) := by
          have := CE.out 0 n1
          rw [HU.out.zero] at this
          exact this
        have d0 : decide (at_ < 0) = false := decide_eq_false hlow
        have d3 : decide (at_ ≥ (j : Int)) = true := decide_eq_true hhi
        have d1 : decide ((j : Int) > 0) = true := decide_eq_true (by omega)
        have d2 : decide ((0 : Int) < (j : Int)) = true := decide_eq_true (by omega)
        have d2' : decide (0 < j) = true := decide_eq_true (by omega)
        go_wp2
        go_ret
        exact ⟨rfl, B2.out⟩
      by_cases hz : at_ = 0
      · subst hz
        have c0 : wr.cell? ⟨g, o, none⟩ = some (.int .i64 0) := by
          have := CE.out 0 n1
          rw [HU.out.zero] at this
          exact this
        have k2 := K2.out 0 n1
        rw [HU.out.zero] at k2
        have d3 : decide (0 ≥ (j : Int)) = false := decide_eq_false hhi
        have d3' : decide ((j : Int) ≤ 0) = false := decide_eq_false hhi
        have i1 : (0 : Int) < (j : Int) := by omega
        have hg3 : g < wr.heap.size := Nat.lt_of_lt_of_le hg HB.out.size
        go_wp2_with fail
        refine (k2 _).mono ?_
        rintro e w3 ⟨rfl, hb3⟩
        have B3 := Lib.hid (B2.out.trans (hb3.mono B2.out.size))
        have ck3 := (hb3.cell (p := ⟨g, o, none⟩) hg3).trans c0
        clear hb3
        go_wp2
        go_ret
        exact ⟨rfl, B3.out⟩
      obtain ⟨k, rfl⟩ : ∃ k : Nat, at_ = (k : Int) := ⟨at_.toNat, by omega⟩
      have hk : k < j := by omega
      have ck := CE.out k hk
      have hless := HU.out.less k hk
      have k2 := K2.out k hk
      have e1 : IntKind.i64.wrap ((f k : Int) + 1) = ((f k + 1 : Nat) : Int) := IntWalk.i64_in _ (by omega)
      have d0 : decide ((k : Int) < 0) = false := decide_eq_false (by omega)
      have d3 : decide ((k : Int) ≥ (j : Int)) = false := decide_eq_false (by omega)
      have i1 : (k : Int) < (j : Int) := by omega
      generalize hu1 : f k + 1 = u1 at *
      rcases Nat.eq_zero_or_pos k with hk0 | hkp
      · exact absurd (by omega) hz
      · obtain ⟨m, hm⟩ : ∃ m, k = m + 1 := ⟨k - 1, by omega⟩
        have k3 := K3.out m (by omega)
        have cm := CE.out m (by omega)
        rw [← hm] at k3
        have e2 : IntKind.i64.wrap ((k : Int) - 1) = (m : Int) := by rw [show (k : Int) - 1 = m by omega]; exact IntWalk.i64_in _ (by omega)
        have i2 : (m : Int) < (j : Int) := by omega
        have q0 : ((k : Int) == 0) = false := by rw [beq_eq_false_iff_ne]; omega
        have HM := Lib.hid hm
        clear hm
        generalize f k = fk at *
        generalize f m = fm at *
        have L2 := Lib.hid k2
        have L3 := Lib.hid k3
        clear k2 k3 hu1
        go_wp2_with fail
        refine (L2.out _).mono ?_
        rintro e w3 ⟨rfl, hb3⟩
        have B3 := Lib.hid (B2.out.trans (hb3.mono B2.out.size))
        have hg3 : g < wr.heap.size := Nat.lt_of_lt_of_le hg HB.out.size
        have ck3 := (hb3.cell (p := ⟨g, o + k, none⟩) hg3).trans ck
        have cm3 := (hb3.cell (p := ⟨g, o + m, none⟩) hg3).trans cm
        have hg4 : g < w3.heap.size := Nat.lt_of_lt_of_le hg3 hb3.size
        clear hb3
        go_wp2_with fail
        refine (L3.out _).mono ?_
        rintro e w4 ⟨rfl, hb4⟩
        have B4 := Lib.hid (B3.out.trans (hb4.mono B3.out.size))
        have cm4 := (hb4.cell (p := ⟨g, o + m, none⟩) hg4).trans cm3
        clear hb4
        go_wp2
        go_ret
        exact ⟨rfl, B4.out⟩
theorem rises_words (hB : BucketSpec) (hJ : JumpsSpec) (HA : ∀ V, Calls Try.prog 11 #[] V (Law.Yes V)) (key : UInt64) (many at_ : Int) (W : World) :
    Calls Try.prog 5 #[.int .u64 key.toNat, .int .i64 many, .int .i64 at_] W (Law.Yes W) := by
  rcases errJ_vals many with h | h
  · obtain ⟨m, rfl, h1, h2⟩ := ok_nat h
    have hless : ∀ i, i < cnt key m → bk key i < m := fun i hi => cnt_iff.1 hi
    refine rises_good _ _ _ (bk key) (cnt key m) ⟨cnt_pos h1, by have := cnt_le key m; omega, bk_zero key, bk_next key, fun i hi => by have := hless i hi; omega⟩ W HA
      (fun V => (jumps_ok hJ key m h1 h2 V).mono fun e w ⟨g, o, c, he, hc, _, hg, hb⟩ => ⟨g, o, c, he, hc, hg, hb⟩) (fun k hk V => ?_) (fun k hk V => ?_)
    · have := bucket_ok hB key (bk key k + 1) (by omega) (by have := hless k hk; omega) V
      rw [last_behind] at this
      exact this
    · have h4 := bk_next key k
      have := bucket_ok hB key (bk key (k + 1)) (by omega) (by have := hless (k + 1) hk; omega) V
      rw [last_at] at this
      exact this
  · exact rises_bad _ _ _ W HA (jumps_bad hJ key many h)
end Go.Proofs.Ytjaacohnnplmdaa.Jump
namespace Go.Proofs.Ytjaacohnnplmdaa.jumpRises
open Go.ChangeShapes Go.WideShapes Go.ChangeAt Go.RowKit Jump
set_option linter.unusedVariables false
theorem walk (a0 : Int) (w0 : (Lit.int .u64 a0).wf = true) (a1 : Int) (w1 : (Lit.int .i64 a1).wf = true) (a2 : Int) (w2 : (Lit.int .i64 a2).wf = true) (W : World) :
    Calls Try.prog 5 #[.int .u64 a0, .int .i64 a1, .int .i64 a2] W (Law.Yes W) := by
  obtain ⟨x, rfl⟩ := Words.of_wf64 w0
  exact rises_words bucket_spec jumps_spec (alive_of bucket_spec jumps_spec) x a1 a2 W
theorem own : ownKnob Try.prog.godebug = none := by kernel_rfl
theorem laid : laidOutB Try.prog = true := by kernel_rfl
theorem pars : ∀ t ∈ Try.f5.params.toList, Try.prog.readableRec t = true ∧ t < Try.prog.types.size := by
  have h : Try.f5.params.toList.all (fun t => Try.prog.readableRec t && decide (t < Try.prog.types.size)) = true := by kernel_rfl
  intro t ht; have := List.all_eq_true.1 h t ht; simpa using this
set_option maxRecDepth 100000 in
theorem calls (H : Type) (enc : TypeId × Value → H) (W : World) (base : Nat) (args : Array Value) (ds : List (DataW H)) (before : List MemPlace)
    (hval : ∀ (j : Nat) t v, Try.f5.params[j]? = some t → args[j]? = some v → Value.okWide Try.prog W .any base t v)
    (hA : DataW.TrodAll enc Try.prog W 0 (fun _ => true) true Try.f5.params.toList args.toList ds before) :
    Calls Try.prog 5 args W (Law.Yes W) := by
  rw [Try.params5] at hA hval
  obtain ⟨v0, vs0, d0, ds0, p0, q0, hargs, rfl, rfl, h0, r0⟩ := trodAll_cons hA
  obtain ⟨v1, vs1, d1, ds1, p1, q1, rfl, rfl, rfl, h1, r1⟩ := trodAll_cons r0
  obtain ⟨v2, vs2, d2, ds2, p2, q2, rfl, rfl, rfl, h2, r2⟩ := trodAll_cons r1
  obtain ⟨rfl, rfl, rfl⟩ := trodAll_nil r2
  obtain rfl : args = #[v0, v1, v2] := by cases args; simp_all
  obtain ⟨a0, rfl, rfl, rfl, w0⟩ := open_int Try.underlying22 (hval 0 22 v0 rfl rfl) h0
  obtain ⟨a1, rfl, rfl, rfl, w1⟩ := open_int Try.underlying3 (hval 1 3 v1 rfl rfl) h1
  obtain ⟨a2, rfl, rfl, rfl, w2⟩ := open_int Try.underlying3 (hval 2 3 v2 rfl rfl) h2
  exact walk (W := W) a0 w0 a1 w1 a2 w2
theorem fnOf (H : Type) : ∀ ds : List (DataW H), ds.length = Try.f5.params.toList.length → Rows.jumpRisesSpec.fn H ds = { results := [.lit (.bool true)], args := ds } := by
  intro ds h
  have h : ds.length = 3 := h
  obtain _ | ⟨x0, ds⟩ := ds
  · simp at h
  obtain _ | ⟨x1, ds⟩ := ds
  · simp at h
  obtain _ | ⟨x2, ds⟩ := ds
  · simp at h
  obtain rfl : ds = [] := List.eq_nil_of_length_eq_zero (by simpa using h)
  rfl
set_option maxRecDepth 100000 in
theorem lifted (os : Os) (started : os.Started) (H : Type) (enc : TypeId × Value → H) :
    ReturnsInHanded {} Try.checked os 5 .any (Rows.jumpRisesSpec.pre6 enc Try.prog Try.f5 Rows.jumpRisesRow.domain false) (Rows.jumpRisesSpec.post enc Try.prog Try.f5 false true false false) := by
  refine returnsInHanded_of_change (C := Try.checked) own started (by kernel_rfl) Try.func5
    (ChangeSpec.witness6 (enc := enc) (C := Try.checked) false ⟨#[], #[.int .u64 0, .int .i64 0, .int .i64 0], []⟩ 8 (by kernel_rfl) (by kernel_rfl) (by kernel_rfl) (by kernel_rfl)) ?_
  intro W base args ds gs before hval hW _ _
  obtain ⟨p, q, hA, hV, rfl, hfz, hnd⟩ := id hW
  obtain ⟨rfl, rfl⟩ := trodVars_none hV
  exact Law.ending (C := Try.checked) (s := Rows.jumpRisesSpec) laid pars rfl Try.underlying4 rfl (fnOf H) hW (calls H enc W base args ds p hval hA)
theorem over : Rows.jumpRisesRow.holds Try.pinned (OpenSpec.ofChange Rows.jumpRisesSpec) :=
  OpenClaim.holds_of_wide 5 Try.f5 rfl rfl rfl rfl rfl rfl rfl ⟨rfl, rfl, rfl, rfl, rfl⟩ rfl rfl rfl rfl rfl (by kernel_rfl) Try.func5 (by kernel_rfl)
    (of_decide_eq_true (by kernel_rfl)) (by unfold Func.isWrapper; first | (rw [if_pos (by decide +kernel)]; kernel_rfl) | (rw [if_neg (by decide +kernel)]; exact ⟨rfl, rfl⟩))
    (fun os started H enc _ => lifted os started H enc)
theorem proved : Rows.JumpRisesSaid := over
end Go.Proofs.Ytjaacohnnplmdaa.jumpRises
