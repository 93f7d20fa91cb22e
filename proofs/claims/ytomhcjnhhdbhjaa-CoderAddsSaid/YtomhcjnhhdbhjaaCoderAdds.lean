/-
  CoderAdds: for every slice of byte rows and all integers n and more, the law CoderAdds answers true (Wrong and More return what the document says), and its arguments read afterwards as before. No condition.
-/
import Derived.Test.YtomhcjnhhdbhjaaCoderSpec
import Derived.Test.YtomhcjnhhdbhjaaCoderRt
import Derived.Test.YtomhcjnhhdbhjaaLaw
import Derived.Test.YtomhcjnhhdbhjaaInts
namespace Go.Proofs.Ytomhcjnhhdbhjaa.coderAdds
open Go.ChangeShapes Go.WideShapes Go.ChangeAt Go.RowKit
open Gf Mem Poly Cdr
set_option linter.unusedVariables false

theorem more_len {rows : List (List UInt8)} {more : Int} {outs : List (List UInt8)} {err : Int} (h : MoreIs rows more outs err) : outs.length ≤ 5864062014805 := by
  rcases h with ⟨_, _, rfl⟩ | ⟨_, _, _, rfl⟩ | ⟨h1, _, _, h2⟩
  · simp
  · simp
  · rw [h2.1]; unfold badMore at h1; omega
set_option maxRecDepth 100000 in
set_option maxHeartbeats 4000000 in
theorem bad1 (hMore : MoreSpec) (hWrong : WrongSpec) (A : Option Addr) (rows : List (List UInt8)) (ca : Nat) (n more : Int) (W : World) (hs : Sane rows) (wn : (Lit.int .i64 n).wf = true) (wm : (Lit.int .i64 more).wf = true) (hR : Rds W A rows) (k1 : n < 1) :
    Calls Try.prog 3 #[.slice A rows.length ca, .int .i64 n, .int .i64 more] W (Law.Yes W) := by
  have h1 := hMore A rows ca more W hs wm hR
  have h2 := fun V (hb : Below W.heap.size W V) => dMore_c A rows ca more hs.1 hs.head V (hR.below hb)
  have h3 := fun V => hWrong n more V wn wm
  have hw : wrongIs n more = 2 := by unfold wrongIs; rw [if_pos (by omega)]
  rw [hw] at h3
  have H1 := Lib.hid h1
  have H2 := Lib.hid h2
  have H3 := Lib.hid h3
  clear hw h1 h2 h3 hMore hWrong hR
  go_enter Try.func3, Try.ntmps3
  go_wp2_with fail
  refine H1.out.mono ?_
  rintro e w1 ⟨A1, c1, o1, e1, rfl, _, hR1, hB1, hP1⟩
  have R1 := Lib.hid hR1
  have B1 := Lib.hid hB1
  have P1 := Lib.hid hP1
  clear hR1 hB1 hP1
  go_wp2_with fail
  refine (H2.out w1 B1.out).mono ?_
  rintro e w2 ⟨A2, c2, o2, e2, rfl, _, _, hR2, hB2, _, hP2⟩
  have R12 := Lib.hid (R1.out.below hB2)
  have R2 := Lib.hid hR2
  have B2 := Lib.hid (B1.out.trans (hB2.mono B1.out.size))
  obtain ⟨he, ho⟩ := more_unique P1.out hP2
  subst he ho
  have l1 : o1.length ≤ 5864062014805 := more_len P1.out
  clear hR2 hB2 hP2
  go_wp2_with fail
  refine (H3.out w2).mono ?_
  rintro e w' ⟨rfl, rfl⟩
  go_wp2_with fail
  refine (same_c A1 A2 o1 o1 c1 c2 l1 l1 _ R12.out R2.out).mono ?_
  rintro e w3 ⟨rfl, hd3⟩
  have hbs : (o1 == o1) = true := beq_self_eq_true _
  have B3 := Lib.hid (B2.out.trans (hd3.below _))
  clear hd3
  go_wp2_with fail
  go_ret
  exact ⟨rfl, B3.out⟩

set_option maxRecDepth 100000 in
set_option maxHeartbeats 4000000 in
theorem bad2 (hMore : MoreSpec) (hWrong : WrongSpec) (A : Option Addr) (rows : List (List UInt8)) (ca : Nat) (n more : Int) (W : World) (hs : Sane rows) (wn : (Lit.int .i64 n).wf = true) (wm : (Lit.int .i64 more).wf = true) (hR : Rds W A rows) (k1 : 1 ≤ n) (k2 : 100 < n) :
    Calls Try.prog 3 #[.slice A rows.length ca, .int .i64 n, .int .i64 more] W (Law.Yes W) := by
  have h1 := hMore A rows ca more W hs wm hR
  have h2 := fun V (hb : Below W.heap.size W V) => dMore_c A rows ca more hs.1 hs.head V (hR.below hb)
  have h3 := fun V => hWrong n more V wn wm
  have hw : wrongIs n more = 2 := by unfold wrongIs; rw [if_pos (by omega)]
  rw [hw] at h3
  have H1 := Lib.hid h1
  have H2 := Lib.hid h2
  have H3 := Lib.hid h3
  clear hw h1 h2 h3 hMore hWrong hR
  go_enter Try.func3, Try.ntmps3
  go_wp2_with fail
  refine H1.out.mono ?_
  rintro e w1 ⟨A1, c1, o1, e1, rfl, _, hR1, hB1, hP1⟩
  have R1 := Lib.hid hR1
  have B1 := Lib.hid hB1
  have P1 := Lib.hid hP1
  clear hR1 hB1 hP1
  go_wp2_with fail
  refine (H2.out w1 B1.out).mono ?_
  rintro e w2 ⟨A2, c2, o2, e2, rfl, _, _, hR2, hB2, _, hP2⟩
  have R12 := Lib.hid (R1.out.below hB2)
  have R2 := Lib.hid hR2
  have B2 := Lib.hid (B1.out.trans (hB2.mono B1.out.size))
  obtain ⟨he, ho⟩ := more_unique P1.out hP2
  subst he ho
  have l1 : o1.length ≤ 5864062014805 := more_len P1.out
  clear hR2 hB2 hP2
  go_wp2_with fail
  refine (H3.out w2).mono ?_
  rintro e w' ⟨rfl, rfl⟩
  go_wp2_with fail
  refine (same_c A1 A2 o1 o1 c1 c2 l1 l1 _ R12.out R2.out).mono ?_
  rintro e w3 ⟨rfl, hd3⟩
  have hbs : (o1 == o1) = true := beq_self_eq_true _
  have B3 := Lib.hid (B2.out.trans (hd3.below _))
  clear hd3
  go_wp2_with fail
  go_ret
  exact ⟨rfl, B3.out⟩

set_option maxRecDepth 100000 in
set_option maxHeartbeats 4000000 in
theorem bad3 (hMore : MoreSpec) (hWrong : WrongSpec) (A : Option Addr) (rows : List (List UInt8)) (ca : Nat) (n more : Int) (W : World) (hs : Sane rows) (wn : (Lit.int .i64 n).wf = true) (wm : (Lit.int .i64 more).wf = true) (hR : Rds W A rows) (k1 : 1 ≤ n) (k2 : n ≤ 100) (k3 : more < 0) :
    Calls Try.prog 3 #[.slice A rows.length ca, .int .i64 n, .int .i64 more] W (Law.Yes W) := by
  have h1 := hMore A rows ca more W hs wm hR
  have h2 := fun V (hb : Below W.heap.size W V) => dMore_c A rows ca more hs.1 hs.head V (hR.below hb)
  have h3 := fun V => hWrong n more V wn wm
  have hw : wrongIs n more = 2 := by unfold wrongIs; rw [if_pos (by omega)]
  rw [hw] at h3
  have H1 := Lib.hid h1
  have H2 := Lib.hid h2
  have H3 := Lib.hid h3
  clear hw h1 h2 h3 hMore hWrong hR
  go_enter Try.func3, Try.ntmps3
  go_wp2_with fail
  refine H1.out.mono ?_
  rintro e w1 ⟨A1, c1, o1, e1, rfl, _, hR1, hB1, hP1⟩
  have R1 := Lib.hid hR1
  have B1 := Lib.hid hB1
  have P1 := Lib.hid hP1
  clear hR1 hB1 hP1
  go_wp2_with fail
  refine (H2.out w1 B1.out).mono ?_
  rintro e w2 ⟨A2, c2, o2, e2, rfl, _, _, hR2, hB2, _, hP2⟩
  have R12 := Lib.hid (R1.out.below hB2)
  have R2 := Lib.hid hR2
  have B2 := Lib.hid (B1.out.trans (hB2.mono B1.out.size))
  obtain ⟨he, ho⟩ := more_unique P1.out hP2
  subst he ho
  have l1 : o1.length ≤ 5864062014805 := more_len P1.out
  clear hR2 hB2 hP2
  go_wp2_with fail
  refine (H3.out w2).mono ?_
  rintro e w' ⟨rfl, rfl⟩
  go_wp2_with fail
  refine (same_c A1 A2 o1 o1 c1 c2 l1 l1 _ R12.out R2.out).mono ?_
  rintro e w3 ⟨rfl, hd3⟩
  have hbs : (o1 == o1) = true := beq_self_eq_true _
  have B3 := Lib.hid (B2.out.trans (hd3.below _))
  clear hd3
  go_wp2_with fail
  go_ret
  exact ⟨rfl, B3.out⟩

set_option maxRecDepth 100000 in
set_option maxHeartbeats 4000000 in
theorem bad4 (hMore : MoreSpec) (hWrong : WrongSpec) (A : Option Addr) (rows : List (List UInt8)) (ca : Nat) (n more : Int) (W : World) (hs : Sane rows) (wn : (Lit.int .i64 n).wf = true) (wm : (Lit.int .i64 more).wf = true) (hR : Rds W A rows) (k1 : 1 ≤ n) (k2 : n ≤ 100) (k3 : 0 ≤ more) (k4 : 100 < more) :
    Calls Try.prog 3 #[.slice A rows.length ca, .int .i64 n, .int .i64 more] W (Law.Yes W) := by
  have h1 := hMore A rows ca more W hs wm hR
  have h2 := fun V (hb : Below W.heap.size W V) => dMore_c A rows ca more hs.1 hs.head V (hR.below hb)
  have h3 := fun V => hWrong n more V wn wm
  have hw : wrongIs n more = 2 := by unfold wrongIs; rw [if_pos (by omega)]
  rw [hw] at h3
  have H1 := Lib.hid h1
  have H2 := Lib.hid h2
  have H3 := Lib.hid h3
  clear hw h1 h2 h3 hMore hWrong hR
  go_enter Try.func3, Try.ntmps3
  go_wp2_with fail
  refine H1.out.mono ?_
  rintro e w1 ⟨A1, c1, o1, e1, rfl, _, hR1, hB1, hP1⟩
  have R1 := Lib.hid hR1
  have B1 := Lib.hid hB1
  have P1 := Lib.hid hP1
  clear hR1 hB1 hP1
  go_wp2_with fail
  refine (H2.out w1 B1.out).mono ?_
  rintro e w2 ⟨A2, c2, o2, e2, rfl, _, _, hR2, hB2, _, hP2⟩
  have R12 := Lib.hid (R1.out.below hB2)
  have R2 := Lib.hid hR2
  have B2 := Lib.hid (B1.out.trans (hB2.mono B1.out.size))
  obtain ⟨he, ho⟩ := more_unique P1.out hP2
  subst he ho
  have l1 : o1.length ≤ 5864062014805 := more_len P1.out
  clear hR2 hB2 hP2
  go_wp2_with fail
  refine (H3.out w2).mono ?_
  rintro e w' ⟨rfl, rfl⟩
  go_wp2_with fail
  refine (same_c A1 A2 o1 o1 c1 c2 l1 l1 _ R12.out R2.out).mono ?_
  rintro e w3 ⟨rfl, hd3⟩
  have hbs : (o1 == o1) = true := beq_self_eq_true _
  have B3 := Lib.hid (B2.out.trans (hd3.below _))
  clear hd3
  go_wp2_with fail
  go_ret
  exact ⟨rfl, B3.out⟩

set_option maxRecDepth 100000 in
set_option maxHeartbeats 4000000 in
theorem good (hMore : MoreSpec) (hWrong : WrongSpec) (A : Option Addr) (rows : List (List UInt8)) (ca : Nat) (n more : Int) (W : World) (hs : Sane rows) (wn : (Lit.int .i64 n).wf = true) (wm : (Lit.int .i64 more).wf = true) (hR : Rds W A rows) (k1 : 1 ≤ n) (k2 : n ≤ 100) (k3 : 0 ≤ more) (k4 : more ≤ 100) :
    Calls Try.prog 3 #[.slice A rows.length ca, .int .i64 n, .int .i64 more] W (Law.Yes W) := by
  have h1 := hMore A rows ca more W hs wm hR
  have h2 := fun V (hb : Below W.heap.size W V) => dMore_c A rows ca more hs.1 hs.head V (hR.below hb)
  have h3 := fun V => hWrong n more V wn wm
  have hw : wrongIs n more = 0 := by unfold wrongIs; rw [if_neg (by omega)]
  rw [hw] at h3
  have H1 := Lib.hid h1
  have H2 := Lib.hid h2
  have H3 := Lib.hid h3
  clear hw h1 h2 h3 hMore hWrong hR
  go_enter Try.func3, Try.ntmps3
  go_wp2_with fail
  refine H1.out.mono ?_
  rintro e w1 ⟨A1, c1, o1, e1, rfl, _, hR1, hB1, hP1⟩
  have R1 := Lib.hid hR1
  have B1 := Lib.hid hB1
  have P1 := Lib.hid hP1
  clear hR1 hB1 hP1
  go_wp2_with fail
  refine (H2.out w1 B1.out).mono ?_
  rintro e w2 ⟨A2, c2, o2, e2, rfl, _, _, hR2, hB2, _, hP2⟩
  have R12 := Lib.hid (R1.out.below hB2)
  have R2 := Lib.hid hR2
  have B2 := Lib.hid (B1.out.trans (hB2.mono B1.out.size))
  obtain ⟨he, ho⟩ := more_unique P1.out hP2
  subst he ho
  have l1 : o1.length ≤ 5864062014805 := more_len P1.out
  clear hR2 hB2 hP2
  go_wp2_with fail
  refine (H3.out w2).mono ?_
  rintro e w' ⟨rfl, rfl⟩
  go_wp2_with fail
  refine (same_c A1 A2 o1 o1 c1 c2 l1 l1 _ R12.out R2.out).mono ?_
  rintro e w3 ⟨rfl, hd3⟩
  have hbs : (o1 == o1) = true := beq_self_eq_true _
  have B3 := Lib.hid (B2.out.trans (hd3.below _))
  clear hd3
  go_wp2_with fail
  go_ret
  have hv : (!decide (n < 1) && !decide (100 < n) && !decide (more < 0) && !decide (100 < more)) = true := by simp; omega
  refine ⟨?_, B3.out⟩
  show Ending.returned (.bool (!decide (n < 1) && !decide (100 < n) && !decide (more < 0) && !decide (100 < more))) = _
  rw [hv]

theorem words (hMore : MoreSpec) (hWrong : WrongSpec) (A : Option Addr) (rows : List (List UInt8)) (ca : Nat) (n more : Int) (W : World) (hs : Sane rows) (wn : (Lit.int .i64 n).wf = true) (wm : (Lit.int .i64 more).wf = true) (hR : Rds W A rows) :
    Calls Try.prog 3 #[.slice A rows.length ca, .int .i64 n, .int .i64 more] W (Law.Yes W) := by
  by_cases k1 : n < 1
  · exact bad1 hMore hWrong A rows ca n more W hs wn wm hR k1
  · by_cases k2 : 100 < n
    · exact bad2 hMore hWrong A rows ca n more W hs wn wm hR (by omega) k2
    · by_cases k3 : more < 0
      · exact bad3 hMore hWrong A rows ca n more W hs wn wm hR (by omega) (by omega) k3
      · by_cases k4 : 100 < more
        · exact bad4 hMore hWrong A rows ca n more W hs wn wm hR (by omega) (by omega) (by omega) k4
        · exact good hMore hWrong A rows ca n more W hs wn wm hR (by omega) (by omega) (by omega) (by omega)
theorem walk {H : Type} {enc : TypeId × Value → H} {base : Nat} {W : World} {v0 : Value} {d0 : DataW H} {p0 : List MemPlace}
    (o0 : Value.okWide Try.prog W .any base 22 v0) (h0 : DataW.Trod enc Try.prog W 0 (fun _ => true) true 22 v0 d0 p0) (a1 : Int) (w1 : (Lit.int .i64 a1).wf = true) (a2 : Int) (w2 : (Lit.int .i64 a2).wf = true)
    (hz : (DataW.weightsEach Try.prog [22, 3, 3] [d0, .lit (.int .i64 a1), .lit (.int .i64 a2)]).all (· ≤ reachBytes) = true) :
    Calls Try.prog 3 #[v0, .int .i64 a1, .int .i64 a2] W (Law.Yes W) := by
  obtain ⟨A0, c0, l0, rfl, z0, k0, _, r0, s0⟩ := open_rowsZ Try.underlying22 Try.underlying33 Try.underlying5 (by kernel_rfl) (by kernel_rfl) (by kernel_rfl) (by kernel_rfl) o0 h0 hz (j := 0) rfl rfl
  exact words more_c wrong_c A0 l0 c0 a1 a2 W ⟨z0, s0⟩ w1 w2 r0
theorem own : ownKnob Try.prog.godebug = none := by kernel_rfl
theorem laid : laidOutB Try.prog = true := by kernel_rfl
theorem pars : ∀ t ∈ Try.f3.params.toList, Try.prog.readableRec t = true ∧ t < Try.prog.types.size := by
  have h : Try.f3.params.toList.all (fun t => Try.prog.readableRec t && decide (t < Try.prog.types.size)) = true := by kernel_rfl
  intro t ht; have := List.all_eq_true.1 h t ht; simpa using this
theorem calls (H : Type) (enc : TypeId × Value → H) (W : World) (base : Nat) (args : Array Value) (ds : List (DataW H)) (before : List MemPlace)
    (hval : ∀ (j : Nat) t v, Try.f3.params[j]? = some t → args[j]? = some v → Value.okWide Try.prog W .any base t v)
    (hA : DataW.TrodAll enc Try.prog W 0 (fun _ => true) true Try.f3.params.toList args.toList ds before) (hz : (DataW.weightsEach Try.prog Try.f3.params.toList ds).all (· ≤ reachBytes) = true) :
    Calls Try.prog 3 args W (Law.Yes W) := by
  rw [Try.params3] at hA hval hz
  obtain ⟨v0, vs0, d0, ds0, p0, q0, hargs, rfl, rfl, h0, r0⟩ := trodAll_cons hA
  obtain ⟨v1, vs1, d1, ds1, p1, q1, rfl, rfl, rfl, h1, r1⟩ := trodAll_cons r0
  obtain ⟨v2, vs2, d2, ds2, p2, q2, rfl, rfl, rfl, h2, r2⟩ := trodAll_cons r1
  obtain ⟨rfl, rfl, rfl⟩ := trodAll_nil r2
  obtain rfl : args = #[v0, v1, v2] := by cases args; simp_all
  obtain ⟨a1, rfl, rfl, rfl, w1⟩ := open_int Try.underlying3 (hval 1 3 v1 rfl rfl) h1
  obtain ⟨a2, rfl, rfl, rfl, w2⟩ := open_int Try.underlying3 (hval 2 3 v2 rfl rfl) h2
  exact walk (W := W) (hval 0 22 v0 rfl rfl) h0 a1 w1 a2 w2 hz
theorem fnOf (H : Type) : ∀ ds : List (DataW H), ds.length = Try.f3.params.toList.length → Rows.coderAddsSpec.fn H ds = { results := [.lit (.bool true)], args := ds } := by
  intro ds h
  have h : ds.length = 3 := h
  obtain _ | ⟨x0, ds⟩ := ds
  · simp at h
  obtain _ | ⟨x1, ds⟩ := ds
  · simp at h
  obtain _ | ⟨x2, ds⟩ := ds
  · simp at h
  obtain rfl : ds = [] := List.eq_nil_of_length_eq_zero (by simpa using h)
  rfl
set_option maxRecDepth 100000 in
theorem lifted (os : Os) (started : os.Started) (H : Type) (enc : TypeId × Value → H) :
    ReturnsInHanded {} Try.checked os 3 .any (Rows.coderAddsSpec.pre6 enc Try.prog Try.f3 Rows.coderAddsRow.domain false) (Rows.coderAddsSpec.post enc Try.prog Try.f3 false true false false) := by
  refine returnsInHanded_of_change_sized (C := Try.checked) own started (by kernel_rfl) Try.func3
    (ChangeSpec.witness6 (enc := enc) (C := Try.checked) false ⟨#[], #[.slice none 0 0, .int .i64 0, .int .i64 0], []⟩ 8 (by kernel_rfl) (by kernel_rfl) (by kernel_rfl) (by kernel_rfl)) ?_
  intro W base args ds gs before hval hW _ hz _
  obtain ⟨p, q, hA, hV, rfl, hfz, hnd⟩ := id hW
  obtain ⟨rfl, rfl⟩ := trodVars_none hV
  simp only [List.append_nil] at hz
  have hz2 : (DataW.weightsEach Try.prog Try.f3.params.toList ds).all (· ≤ reachBytes) = true := hz
  exact Law.ending (C := Try.checked) (s := Rows.coderAddsSpec) laid pars rfl Try.underlying4 rfl (fnOf H) hW (calls H enc W base args ds p hval hA hz2)
theorem over : Rows.coderAddsRow.holds Try.pinned (OpenSpec.ofChange Rows.coderAddsSpec) :=
  OpenClaim.holds_of_wide 3 Try.f3 rfl rfl rfl rfl rfl rfl rfl ⟨rfl, rfl, rfl, rfl, rfl⟩ rfl rfl rfl rfl rfl (by kernel_rfl) Try.func3 (by kernel_rfl)
    (of_decide_eq_true (by kernel_rfl)) (by unfold Func.isWrapper; first | (rw [if_pos (by decide +kernel)]; kernel_rfl) | (rw [if_neg (by decide +kernel)]; exact ⟨rfl, rfl⟩))
    (fun os started H enc _ => lifted os started H enc)
theorem proved : Rows.CoderAddsSaid := over
end Go.Proofs.Ytomhcjnhhdbhjaa.coderAdds
