/-
  The statement on fewer buckets, over what it takes of the program.
-/
import Derived.Test.YtjaacohnnplmdaaJpSpec
import Derived.Test.YtjaacohnnplmdaaJpFn3
namespace Go.Proofs.Ytjaacohnnplmdaa.Jump
set_option linter.unusedVariables false
set_option linter.unusedSimpArgs false
open Go.RowKit Mem

/-- What Jumps gives, for the walk. -/
def LGives (l : List Int) (n : Nat) (k : Int) (W : World) (e : Ending) (W' : World) : Prop :=
  ∃ A c, e = .returned (.tuple #[.slice A n c, .int .i64 k]) ∧ Reads W' A (l.map (Value.int .i64)) ∧ Below W.heap.size W W'
set_option maxHeartbeats 1000000 in
theorem less_main (kv many few b1 e1 b2 e2 e3 : Int) (l : List Int) (n : Nat) (W : World) (hn : l.length = n) (hbig : n ≤ 9223372036854775807) (HA : ∀ V, Calls Try.prog 11 #[] V (Law.Yes V))
    (h1 : ∀ V, Calls Try.prog 7 #[.int .u64 kv, .int .i64 many] V (Gave (.tuple #[.int .i64 b1, .int .i64 e1]) V))
    (h2 : ∀ V, Calls Try.prog 7 #[.int .u64 kv, .int .i64 few] V (Gave (.tuple #[.int .i64 b2, .int .i64 e2]) V))
    (h3 : ∀ V, Calls Try.prog 8 #[.int .u64 kv, .int .i64 many] V (LGives l n e3 V))
    (h : e1 = 2 ∨ (e1 = 0 ∧ e2 = 2) ∨ (e1 = 0 ∧ e2 = 0 ∧ e3 = 0 ∧ many < few) ∨ (e1 = 0 ∧ e2 = 0 ∧ e3 = 0 ∧ few ≤ many ∧ b2 ∈ l ∧ (few ≤ b1 ∨ (b1 < few ∧ b1 = b2)))) :
    Calls Try.prog 6 #[.int .u64 kv, .int .i64 many, .int .i64 few] W (Law.Yes W) := by
  have K1 := Lib.hid h1
  have K2 := Lib.hid h2
  have K3 := Lib.hid h3
  have KA := Lib.hid HA
  have HN := Lib.hid hn
  clear h1 h2 h3 HA hn
  rcases h with rfl | ⟨rfl, rfl⟩ | ⟨rfl, rfl, rfl, h⟩ | ⟨rfl, rfl, rfl, h, hm, h' | ⟨h', rfl⟩⟩
  case' inr.inr.inl =>
    have d1 : decide (few > many) = true := decide_eq_true h
    have d1' : decide (many < few) = true := decide_eq_true h
    have hm : b1 = b1 := rfl
  case' inr.inr.inr.inl =>
    have d1 : decide (few > many) = false := decide_eq_false (by omega)
    have d1' : decide (many < few) = false := decide_eq_false (by omega)
    have d2 : decide (b1 ≥ few) = true := decide_eq_true h'
  case' inr.inr.inr.inr =>
    have d1 : decide (few > many) = false := decide_eq_false (by omega)
    have d1' : decide (many < few) = false := decide_eq_false (by omega)
    have d2 : decide (b1 ≥ few) = false := decide_eq_false (by omega)
  all_goals
    try have HM := Lib.hid hm
    try clear hm
    go_enter Try.func6, Try.ntmps6
    go_wp2_with fail
    refine (KA.out _).mono ?_
    rintro e w0 ⟨rfl, hb0⟩
    go_wp2_with fail
    refine (K1.out _).mono ?_
    rintro e w1 ⟨rfl, hb1⟩
    have B1 := hb0.trans (hb1.mono hb0.size)
    clear hb0 hb1
    go_wp2_with fail
    refine (K2.out _).mono ?_
    rintro e w2 ⟨rfl, hb2⟩
    have B2 := B1.trans (hb2.mono B1.size)
    clear hb2 B1
    go_wp2_with fail
    refine (K3.out _).mono ?_
    rintro e w3 ⟨A, c, rfl, hr, hb3⟩
    have B3 := Lib.hid (B2.trans (hb3.mono B2.size))
    have HR := Lib.hid hr
    clear hb3 B2 hr
    go_wp2_with (go_at_call 12; refine (contains_c A l n c _ _ HN.out hbig HR.out true (decide_eq_true HM.out)).mono ?_; rintro e w4 ⟨rfl, rfl⟩)
    go_ret
    exact ⟨rfl, B3.out⟩
theorem less_words (hB : BucketSpec) (hJ : JumpsSpec) (HA : ∀ V, Calls Try.prog 11 #[] V (Law.Yes V)) (key : UInt64) (many few : Int) (W : World) :
    Calls Try.prog 6 #[.int .u64 key.toNat, .int .i64 many, .int .i64 few] W (Law.Yes W) := by
  have hj : ∀ (l : List Int) (e : Int), listJ key many = l → errJ many = e → ∀ V, Calls Try.prog 8 #[.int .u64 key.toNat, .int .i64 many] V (LGives l l.length e V) := fun l e h1 h2 V => by
    subst h1 h2; exact hJ key many V
  rcases errJ_vals many with h | h
  · obtain ⟨m, rfl, h1, h2⟩ := ok_nat h
    have hlen : (jumps key m).length ≤ 9223372036854775807 := by rw [jumps_len]; have := cnt_le key m; omega
    rcases errJ_vals few with k | k
    · obtain ⟨n, rfl, k1, k2⟩ := ok_nat k
      refine less_main _ _ _ _ _ _ _ _ _ _ W rfl hlen HA (bucket_ok hB key m h1 h2) (bucket_ok hB key n k1 k2) (hj _ _ (listJ_ok h1 h2) h) (.inr (.inr ?_))
      rcases Nat.lt_or_ge m n with c | c
      · exact .inl ⟨rfl, rfl, rfl, by omega⟩
      · refine .inr ⟨rfl, rfl, rfl, by omega, less_in k1 c, ?_⟩
        rcases less_same (key := key) k1 c with d | d
        · exact .inl (by omega)
        · exact .inr ⟨by rw [d]; have := last_lt (key := key) k1; omega, by rw [d]⟩
    · exact less_main _ _ _ _ _ _ _ _ _ _ W rfl hlen HA (bucket_ok hB key m h1 h2) (bucket_bad hB key few k) (hj _ _ (listJ_ok h1 h2) h) (.inr (.inl ⟨rfl, rfl⟩))
  · exact less_main _ _ _ _ _ _ _ _ _ _ W rfl (by simp) HA (bucket_bad hB key many h) (hB key few) (hj _ _ (listJ_bad h) h) (.inl rfl)
end Go.Proofs.Ytjaacohnnplmdaa.Jump
namespace Go.Proofs.Ytjaacohnnplmdaa.jumpLess
open Go.ChangeShapes Go.WideShapes Go.ChangeAt Go.RowKit Jump
set_option linter.unusedVariables false
theorem walk (a0 : Int) (w0 : (Lit.int .u64 a0).wf = true) (a1 : Int) (w1 : (Lit.int .i64 a1).wf = true) (a2 : Int) (w2 : (Lit.int .i64 a2).wf = true) (W : World) :
    Calls Try.prog 6 #[.int .u64 a0, .int .i64 a1, .int .i64 a2] W (Law.Yes W) := by
  obtain ⟨x, rfl⟩ := Words.of_wf64 w0
  exact less_words bucket_spec jumps_spec (alive_of bucket_spec jumps_spec) x a1 a2 W
theorem own : ownKnob Try.prog.godebug = none := by kernel_rfl
theorem laid : laidOutB Try.prog = true := by kernel_rfl
theorem pars : ∀ t ∈ Try.f6.params.toList, Try.prog.readableRec t = true ∧ t < Try.prog.types.size := by
  have h : Try.f6.params.toList.all (fun t => Try.prog.readableRec t && decide (t < Try.prog.types.size)) = true := by kernel_rfl
  intro t ht; have := List.all_eq_true.1 h t ht; simpa using this
set_option maxRecDepth 100000 in
theorem calls (H : Type) (enc : TypeId × Value → H) (W : World) (base : Nat) (args : Array Value) (ds : List (DataW H)) (before : List MemPlace)
    (hval : ∀ (j : Nat) t v, Try.f6.params[j]? = some t → args[j]? = some v → Value.okWide Try.prog W .any base t v)
    (hA : DataW.TrodAll enc Try.prog W 0 (fun _ => true) true Try.f6.params.toList args.toList ds before) :
    Calls Try.prog 6 args W (Law.Yes W) := by
  rw [Try.params6] at hA hval
  obtain ⟨v0, vs0, d0, ds0, p0, q0, hargs, rfl, rfl, h0, r0⟩ := trodAll_cons hA
  obtain ⟨v1, vs1, d1, ds1, p1, q1, rfl, rfl, rfl, h1, r1⟩ := trodAll_cons r0
  obtain ⟨v2, vs2, d2, ds2, p2, q2, rfl, rfl, rfl, h2, r2⟩ := trodAll_cons r1
  obtain ⟨rfl, rfl, rfl⟩ := trodAll_nil r2
  obtain rfl : args = #[v0, v1, v2] := by cases args; simp_all
  obtain ⟨a0, rfl, rfl, rfl, w0⟩ := open_int Try.underlying22 (hval 0 22 v0 rfl rfl) h0
  obtain ⟨a1, rfl, rfl, rfl, w1⟩ := open_int Try.underlying3 (hval 1 3 v1 rfl rfl) h1
  obtain ⟨a2, rfl, rfl, rfl, w2⟩ := open_int Try.underlying3 (hval 2 3 v2 rfl rfl) h2
  exact walk (W := W) a0 w0 a1 w1 a2 w2
theorem fnOf (H : Type) : ∀ ds : List (DataW H), ds.length = Try.f6.params.toList.length → Rows.jumpLessSpec.fn H ds = { results := [.lit (.bool true)], args := ds } := by
  intro ds h
  have h : ds.length = 3 := h
  obtain _ | ⟨x0, ds⟩ := ds
  · simp at h
  obtain _ | ⟨x1, ds⟩ := ds
  · simp at h
  obtain _ | ⟨x2, ds⟩ := ds
  · simp at h
  obtain rfl : ds = [] := List.eq_nil_of_length_eq_zero (by simpa using h)
  rfl
set_option maxRecDepth 100000 in
theorem lifted (os : Os) (started : os.Started) (H : Type) (enc : TypeId × Value → H) :
    ReturnsInHanded {} Try.checked os 6 .any (Rows.jumpLessSpec.pre6 enc Try.prog Try.f6 Rows.jumpLessRow.domain false) (Rows.jumpLessSpec.post enc Try.prog Try.f6 false true false false) := by
  refine returnsInHanded_of_change (C := Try.checked) own started (by kernel_rfl) Try.func6
    (ChangeSpec.witness6 (enc := enc) (C := Try.checked) false ⟨#[], #[.int .u64 0, .int .i64 0, .int .i64 0], []⟩ 8 (by kernel_rfl) (by kernel_rfl) (by kernel_rfl) (by kernel_rfl)) ?_
  intro W base args ds gs before hval hW _ _
  obtain ⟨p, q, hA, hV, rfl, hfz, hnd⟩ := id hW
  obtain ⟨rfl, rfl⟩ := trodVars_none hV
  exact Law.ending (C := Try.checked) (s := Rows.jumpLessSpec) laid pars rfl Try.underlying4 rfl (fnOf H) hW (calls H enc W base args ds p hval hA)
theorem over : Rows.jumpLessRow.holds Try.pinned (OpenSpec.ofChange Rows.jumpLessSpec) :=
  OpenClaim.holds_of_wide 6 Try.f6 rfl rfl rfl rfl rfl rfl rfl ⟨rfl, rfl, rfl, rfl, rfl⟩ rfl rfl rfl rfl rfl (by kernel_rfl) Try.func6 (by kernel_rfl)
    (of_decide_eq_true (by kernel_rfl)) (by unfold Func.isWrapper; first | (rw [if_pos (by decide +kernel)]; kernel_rfl) | (rw [if_neg (by decide +kernel)]; exact ⟨rfl, rfl⟩))
    (fun os started H enc _ => lifted os started H enc)
theorem proved : Rows.JumpLessSaid := over
end Go.Proofs.Ytjaacohnnplmdaa.jumpLess
