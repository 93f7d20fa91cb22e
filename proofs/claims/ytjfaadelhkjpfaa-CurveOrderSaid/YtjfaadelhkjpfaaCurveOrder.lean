/-
  CurveOrder: for all byte slices xs and ys, the law CurveOrder answers true (the order of the points does not matter), and its arguments read afterwards as before. No condition.
-/
import Derived.Test.YtjfaadelhkjpfaaCurve
import Derived.Test.YtjfaadelhkjpfaaLaw
import Derived.Test.YtjfaadelhkjpfaaCurveAlive
namespace Go.Proofs.Ytjfaadelhkjpfaa.curveOrder
open Go.ChangeShapes Go.WideShapes Go.ChangeAt Go.RowKit
open Gf Mem Poly
set_option linter.unusedVariables false

def revTo (l : List UInt8) (k : Nat) : List UInt8 := List.replicate (l.length - k) 0 ++ (l.take k).reverse
theorem revTo_zero (l : List UInt8) : revTo l 0 = List.replicate l.length 0 := by simp [revTo]
theorem revTo_all (l : List UInt8) : revTo l l.length = l.reverse := by simp [revTo]
theorem revTo_len {l : List UInt8} {k : Nat} (h : k ≤ l.length) : (revTo l k).length = l.length := by simp [revTo]; omega
theorem revTo_next {l : List UInt8} {k : Nat} {x : UInt8} (h : l[k]? = some x) : (revTo l k).set (l.length - 1 - k) x = revTo l (k + 1) := by
  have hk := (List.getElem?_eq_some_iff.1 h).1
  unfold revTo
  rw [Poly.take_next h, List.reverse_append, List.set_append_left _ _ (by simp; omega), show l.length - k = (l.length - 1 - k) + 1 by omega, List.replicate_succ', show l.length - (k + 1) = l.length - 1 - k by omega]
  rw [List.set_append_right _ _ (by simp)]
  simp
theorem revTo_at {l : List UInt8} {k : Nat} (h : k < l.length) : (revTo l k)[l.length - 1 - k]? = some 0 := by
  unfold revTo
  rw [List.getElem?_append_left (by simp; omega), List.getElem?_replicate, if_pos (by omega)]

set_option maxRecDepth 100000 in
set_option maxHeartbeats 4000000 in
theorem rev_c (A : Option Addr) (l : List UInt8) (ca : Nat) (W : World) (hl : l.length ≤ 140737488351232) (hr : Reads W A (l.map byt)) :
    Calls Try.prog 21 #[.slice A l.length ca] W (Gives l.reverse W) := by
  have hmk := make8 l.length (by omega)
  have HR := Lib.hid hr
  have H0 := Lib.hid (Own.made W l.length)
  have HZ := Lib.hid (revTo_zero l)
  have HLR := Lib.hid (revTo_all l)
  clear hr
  generalize hN : l.length = n at *
  have HN := Lib.hid hN
  clear hN
  go_enter Try.func21, Try.ntmps21
  go_wp2
  go_loopw [11] (fun i wr => ∃ k : Nat, k ≤ n ∧ i = .int .i64 k ∧ Own wr W.heap.size (revTo l k) ∧ Below W.heap.size W wr) (fun i _ => n - (intOf i).toNat)
  case atStart => exact ⟨0, by omega, rfl, by rw [HZ.out]; exact H0.out, (Below.refl _ _).alloc (Nat.le_refl _) _⟩
  case round =>
    obtain ⟨k, hk, rfl, hO, hB⟩ := hrel
    have HO := Lib.hid hO
    have HB := Lib.hid hB
    by_cases hlt : k < n
    · obtain ⟨b, o, c, rfl, ec, cc⟩ := (HR.out.below hB).bytes (k := k) (by rw [HN.out]; exact hlt)
      have hat := revTo_at (l := l) (k := k) (by rw [HN.out]; exact hlt)
      rw [HN.out] at hat
      have cs := hO.at_ hat
      have fs := hO.free (n - 1 - k)
      have hnx := revTo_next ec
      rw [HN.out] at hnx
      have HNX := Lib.hid hnx
      have i1 : (0 : Int) ≤ (n : Int) - 1 - (k : Int) := by omega
      have i2 : (n : Int) - 1 - (k : Int) < (n : Int) := by omega
      have e1 : ((n : Int) - 1 - (k : Int)).toNat = n - 1 - k := by omega
      clear hO hB ec hat hnx
      go_wp2
      go_roundw
      case rel => exact ⟨k + 1, by omega, by go_num, by rw [← HNX.out]; exact HO.out.put _ _, HB.out.setCell (Nat.le_refl _) _⟩
      case measure => simp [intOf]; omega
    · obtain rfl : k = n := by omega
      clear hO hB
      go_wp2
      go_ret
      have h1 := HO.out
      rw [HLR.out] at h1
      exact ⟨some ⟨W.heap.size, 0, none⟩, k, by rw [List.length_reverse, HN.out]; rfl, by rw [List.length_reverse, HN.out]; exact Nat.le_refl _, h1.reads, HB.out, fun a ha => by injection ha with ha; subst ha; exact Nat.le_refl _⟩

theorem nodup_rev {l : List UInt8} : l.reverse.Nodup ↔ l.Nodup := by
  unfold List.Nodup; rw [List.pairwise_reverse]
  exact ⟨fun h => h.imp fun hne e => hne e.symm, fun h => h.imp fun hne e => hne e.symm⟩
theorem thru_rev {xs ys r : List UInt8} (h : xs.length = ys.length) (ht : Thru xs.reverse ys.reverse r) : Thru xs ys r := by
  obtain ⟨h1, h2, h3⟩ := ht
  rw [List.length_reverse] at h2
  refine ⟨h1, h2, fun i x y hx hy => ?_⟩
  have hi := (List.getElem?_eq_some_iff.1 hx).1
  refine h3 (xs.length - 1 - i) x y ?_ ?_
  · rw [List.getElem?_reverse (by omega), show xs.length - 1 - (xs.length - 1 - i) = i by omega]; exact hx
  · rw [List.getElem?_reverse (by omega), ← h, show xs.length - 1 - (xs.length - 1 - i) = i by omega]; exact hy

set_option maxRecDepth 100000 in
set_option maxHeartbeats 4000000 in
theorem words (hAt : AtSpec) (hSum : SumSpec) (hTimes : TimesSpec) (hThru : ThruSpec) (A B : Option Addr) (xs ys : List UInt8) (ca cb : Nat) (W : World) (hx : Reads W A (xs.map byt)) (hy : Reads W B (ys.map byt))
    (lx : xs.length ≤ 140737488351232) (ly : ys.length ≤ 140737488351232) :
    Calls Try.prog 8 #[.slice A xs.length ca, .slice B ys.length cb] W (Law.Yes W) := by
  have hal := alive_c hAt hSum hTimes hThru W
  have h1 := fun V (h : Below W.heap.size W V) => hThru A B xs ys ca cb V (by omega) (by omega) (hx.below h) (hy.below h)
  have h2 := fun V (h : Below W.heap.size W V) => rev_c A xs ca V lx (hx.below h)
  have h3 := fun V (h : Below W.heap.size W V) => rev_c B ys cb V ly (hy.below h)
  have h4 := fun A' B' c d V (h : Reads V A' (xs.reverse.map byt)) (h' : Reads V B' (ys.reverse.map byt)) => hThru A' B' xs.reverse ys.reverse c d V (by rw [List.length_reverse]; omega) (by rw [List.length_reverse]; omega) h h'
  simp only [List.length_reverse] at h4
  have HAL := Lib.hid hal
  have H1 := Lib.hid h1
  have H2 := Lib.hid h2
  have H3 := Lib.hid h3
  have H4 := Lib.hid h4
  clear hal h1 h2 h3 h4 hAt hSum hTimes hThru hx hy
  go_enter Try.func8, Try.ntmps8
  go_wp2_with fail
  refine HAL.out.mono ?_
  rintro e w1 ⟨rfl, hb1⟩
  have B1 := Lib.hid hb1
  clear hb1
  go_wp2_with fail
  refine (H1.out w1 B1.out).mono ?_
  rintro e w2 ⟨A2, c2, r, err, rfl, hR2, hb2, hcase⟩
  have B2 := Lib.hid (B1.out.trans (hb2.mono B1.out.size))
  have R2 := Lib.hid hR2
  have HC := Lib.hid hcase
  clear hR2 hb2 hcase
  go_wp2_with fail
  refine (H2.out w2 B2.out).mono ?_
  rintro e w3 ⟨A3, c3, rfl, _, hR3, hb3, _⟩
  have B3 := Lib.hid (B2.out.trans (hb3.mono B2.out.size))
  have R3 := Lib.hid hR3
  have R23 := Lib.hid (R2.out.below hb3)
  clear hR3 hb3
  go_wp2_with fail
  refine (H3.out w3 B3.out).mono ?_
  rintro e w4 ⟨A4, c4, rfl, _, hR4, hb4, _⟩
  have B4 := Lib.hid (B3.out.trans (hb4.mono B3.out.size))
  have R4 := Lib.hid hR4
  have R34 := Lib.hid (R3.out.below hb4)
  have R24 := Lib.hid (R23.out.below hb4)
  clear hR4 hb4
  go_wp2_with fail
  refine (H4.out A3 A4 c3 c4 w4 R34.out R4.out).mono ?_
  rintro e w5 ⟨A5, c5, s, err2, rfl, hR5, hb5, hcase⟩
  have B5 := Lib.hid (B4.out.trans (hb5.mono B4.out.size))
  have R5 := Lib.hid hR5
  have R25 := Lib.hid (R24.out.below hb5)
  rw [List.length_reverse, List.length_reverse] at hcase
  have hrs : err = err2 ∧ r = s := by
    rcases HC.out with ⟨a1, a2, a3⟩ | ⟨a1, a2, a3, a4⟩ | ⟨a1, a2, a3, a4⟩ <;> rcases hcase with ⟨b1, b2, b3⟩ | ⟨b1, b2, b3, b4⟩ | ⟨b1, b2, b3, b4⟩
    · exact ⟨a2.trans b2.symm, a3.trans b3.symm⟩
    · exact absurd b1 a1
    · exact absurd b1 a1
    · exact absurd a1 b1
    · exact ⟨a3.trans b3.symm, a4.trans b4.symm⟩
    · exact absurd (nodup_rev.1 b2) a2
    · exact absurd a1 b1
    · exact absurd (nodup_rev.2 a2) b2
    · exact ⟨a3.trans b3.symm, thru_unique a2 a1 a4 (thru_rev a1 b4)⟩
  obtain ⟨rfl, hrs⟩ := hrs
  have HRS := Lib.hid hrs
  clear hR5 hb5 hcase hrs
  go_wp2_with fail
  refine (equal_same A2 A5 _ _ _ _ w5 R25.out R5.out HRS.out).mono ?_
  rintro e w' ⟨rfl, rfl⟩
  go_wp2_with fail
  go_ret
  exact ⟨rfl, B5.out⟩
theorem walk {H : Type} {enc : TypeId × Value → H} {base : Nat} {W : World} {v0 v1 : Value} {d0 d1 : DataW H} {p0 p1 : List MemPlace}
    (o0 : Value.okWide Try.prog W .any base 22 v0) (h0 : DataW.Trod enc Try.prog W 0 (fun _ => true) true 22 v0 d0 p0) (o1 : Value.okWide Try.prog W .any base 22 v1) (h1 : DataW.Trod enc Try.prog W 0 (fun _ => true) true 22 v1 d1 p1)
     (hz : (DataW.weightsEach Try.prog [22, 22] [d0, d1]).all (· ≤ reachBytes) = true) :
    Calls Try.prog 8 #[v0, v1] W (Law.Yes W) := by
  obtain ⟨A0, c0, l0, rfl, z0, r0, k0, _⟩ := open_bytesZ Try.underlying22 Try.underlying5 (by kernel_rfl) (by kernel_rfl) o0 h0 hz (j := 0) rfl rfl
  obtain ⟨A1, c1, l1, rfl, z1, r1, k1, _⟩ := open_bytesZ Try.underlying22 Try.underlying5 (by kernel_rfl) (by kernel_rfl) o1 h1 hz (j := 1) rfl rfl
  exact words at_c sum_c times_c thru_c A0 A1 l0 l1 c0 c1  W r0 r1 z0 z1
theorem own : ownKnob Try.prog.godebug = none := by kernel_rfl
theorem laid : laidOutB Try.prog = true := by kernel_rfl
theorem pars : ∀ t ∈ Try.f8.params.toList, Try.prog.readableRec t = true ∧ t < Try.prog.types.size := by
  have h : Try.f8.params.toList.all (fun t => Try.prog.readableRec t && decide (t < Try.prog.types.size)) = true := by kernel_rfl
  intro t ht; have := List.all_eq_true.1 h t ht; simpa using this
theorem calls (H : Type) (enc : TypeId × Value → H) (W : World) (base : Nat) (args : Array Value) (ds : List (DataW H)) (before : List MemPlace)
    (hval : ∀ (j : Nat) t v, Try.f8.params[j]? = some t → args[j]? = some v → Value.okWide Try.prog W .any base t v)
    (hA : DataW.TrodAll enc Try.prog W 0 (fun _ => true) true Try.f8.params.toList args.toList ds before) (hz : (DataW.weightsEach Try.prog Try.f8.params.toList ds).all (· ≤ reachBytes) = true) :
    Calls Try.prog 8 args W (Law.Yes W) := by
  rw [Try.params8] at hA hval hz
  obtain ⟨v0, vs0, d0, ds0, p0, q0, hargs, rfl, rfl, h0, r0⟩ := trodAll_cons hA
  obtain ⟨v1, vs1, d1, ds1, p1, q1, rfl, rfl, rfl, h1, r1⟩ := trodAll_cons r0
  obtain ⟨rfl, rfl, rfl⟩ := trodAll_nil r1
  obtain rfl : args = #[v0, v1] := by cases args; simp_all
  exact walk (W := W) (hval 0 22 v0 rfl rfl) h0 (hval 1 22 v1 rfl rfl) h1 hz
theorem fnOf (H : Type) : ∀ ds : List (DataW H), ds.length = Try.f8.params.toList.length → Rows.curveOrderSpec.fn H ds = { results := [.lit (.bool true)], args := ds } := by
  intro ds h
  have h : ds.length = 2 := h
  obtain _ | ⟨x0, ds⟩ := ds
  · simp at h
  obtain _ | ⟨x1, ds⟩ := ds
  · simp at h
  obtain rfl : ds = [] := List.eq_nil_of_length_eq_zero (by simpa using h)
  rfl
set_option maxRecDepth 100000 in
theorem lifted (os : Os) (started : os.Started) (H : Type) (enc : TypeId × Value → H) :
    ReturnsInHanded {} Try.checked os 8 .any (Rows.curveOrderSpec.pre6 enc Try.prog Try.f8 Rows.curveOrderRow.domain false) (Rows.curveOrderSpec.post enc Try.prog Try.f8 false true false false) := by
  refine returnsInHanded_of_change_sized (C := Try.checked) own started (by kernel_rfl) Try.func8
    (ChangeSpec.witness6 (enc := enc) (C := Try.checked) false ⟨#[], #[.slice none 0 0, .slice none 0 0], []⟩ 8 (by kernel_rfl) (by kernel_rfl) (by kernel_rfl) (by kernel_rfl)) ?_
  intro W base args ds gs before hval hW _ hz _
  obtain ⟨p, q, hA, hV, rfl, hfz, hnd⟩ := id hW
  obtain ⟨rfl, rfl⟩ := trodVars_none hV
  simp only [List.append_nil] at hz
  have hz2 : (DataW.weightsEach Try.prog Try.f8.params.toList ds).all (· ≤ reachBytes) = true := hz
  exact Law.ending (C := Try.checked) (s := Rows.curveOrderSpec) laid pars rfl Try.underlying4 rfl (fnOf H) hW (calls H enc W base args ds p hval hA hz2)
theorem over : Rows.curveOrderRow.holds Try.pinned (OpenSpec.ofChange Rows.curveOrderSpec) :=
  OpenClaim.holds_of_wide 8 Try.f8 rfl rfl rfl rfl rfl rfl rfl ⟨rfl, rfl, rfl, rfl, rfl⟩ rfl rfl rfl rfl rfl (by kernel_rfl) Try.func8 (by kernel_rfl)
    (of_decide_eq_true (by kernel_rfl)) (by unfold Func.isWrapper; first | (rw [if_pos (by decide +kernel)]; kernel_rfl) | (rw [if_neg (by decide +kernel)]; exact ⟨rfl, rfl⟩))
    (fun os started H enc _ => lifted os started H enc)
theorem proved : Rows.CurveOrderSaid := over
end Go.Proofs.Ytjfaadelhkjpfaa.curveOrder
