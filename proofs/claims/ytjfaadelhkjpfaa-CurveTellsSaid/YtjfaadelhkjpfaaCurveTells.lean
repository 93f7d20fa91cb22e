/-
  CurveTells: for all byte slices p and q and every byte x, the law CurveTells answers true (At, Sum and Times return what the document says), and its arguments read afterwards as before. No condition.
-/
import Derived.Test.YtjfaadelhkjpfaaCurve
import Derived.Test.YtjfaadelhkjpfaaLaw
import Derived.Test.YtjfaadelhkjpfaaCurveSpec
import Derived.Test.YtjfaadelhkjpfaaBytesFns
namespace Go.Proofs.Ytjfaadelhkjpfaa.curveTells
open Go.ChangeShapes Go.WideShapes Go.ChangeAt Go.RowKit
open Gf Mem Poly
set_option linter.unusedVariables false
attribute [local go_sem] xor8_nat

/-- The row behind the copy, with the first k places of q added in. -/
def sumTo (p q : List UInt8) (n k : Nat) : List UInt8 := (p ++ List.replicate (n - p.length) 0) |> fun l => Poly.part l q k
theorem sumTo_zero (p q : List UInt8) (n : Nat) : sumTo p q n 0 = p ++ List.replicate (n - p.length) 0 := part_zero _ _
theorem base_len {p : List UInt8} {n : Nat} (h : p.length ≤ n) : (p ++ List.replicate (n - p.length) (0 : UInt8)).length = n := by simp; omega
theorem sumTo_at {p q : List UInt8} {n k : Nat} (hp : p.length ≤ n) (hq : q.length ≤ n) (hk : k < q.length) : (sumTo p q n k)[k]? = some (co (p ++ List.replicate (n - p.length) 0) k) :=
  part_at (by rw [base_len hp]; exact hq) hk
theorem sumTo_next {p q : List UInt8} {n k : Nat} {c : UInt8} (hp : p.length ≤ n) (hq : q.length ≤ n) (hc : q[k]? = some c) : (sumTo p q n k).set k (xor8 (co (p ++ List.replicate (n - p.length) 0) k) c) = sumTo p q n (k + 1) :=
  part_next (by rw [base_len hp]; exact hq) hc
theorem co_base (p : List UInt8) (m k : Nat) : co (p ++ List.replicate m 0) k = co p k := by
  unfold co
  by_cases h : k < p.length
  · rw [List.getElem?_append_left h]
  · rw [List.getElem?_append_right (by omega), List.getElem?_eq_none (l := p) (by omega), List.getElem?_replicate]
    split <;> rfl
theorem sumTo_all {p q : List UInt8} {n : Nat} : trim (sumTo p q n q.length) = trim (padd p q) := by
  unfold sumTo
  show trim (Poly.part (p ++ List.replicate (n - p.length) 0) q q.length) = _
  rw [part_all]
  exact trim_ext fun k => by rw [co_padd, co_padd, co_base]
theorem sumTo_len {p q : List UInt8} {n k : Nat} (hp : p.length ≤ n) (hq : q.length ≤ n) : (sumTo p q n k).length = n := by
  show (Poly.part (p ++ List.replicate (n - p.length) 0) q k).length = n
  rw [part_len (by rw [base_len hp]; exact hq), base_len hp]

theorem cast_max (a b : Nat) : ((max a b : Nat) : Int) = max (a : Int) (b : Int) := by omega
set_option maxRecDepth 100000 in
set_option maxHeartbeats 4000000 in
theorem words (hAt : AtSpec) (hSum : SumSpec) (hTimes : TimesSpec) (A B : Option Addr) (p q : List UInt8) (ca cb : Nat) (x : UInt8) (W : World) (hp : Reads W A (p.map byt)) (hq : Reads W B (q.map byt))
    (lp : p.length ≤ 140737488351232) (lq : q.length ≤ 140737488351232) (kp : p.length ≤ ca) (kq : q.length ≤ cb) :
    Calls Try.prog 3 #[.slice A p.length ca, .slice B q.length cb, .int .u8 x.toNat] W (Law.Yes W) := by
  have HP := Lib.hid hp
  have HQ := Lib.hid hq
  have HA := Lib.hid hAt
  have HS := Lib.hid hSum
  have HT := Lib.hid hTimes
  clear hp hq hAt hSum hTimes
  generalize hN : p.length = n at *
  generalize hM : q.length = m at *
  have HN := Lib.hid hN
  have HM := Lib.hid hM
  clear hN hM
  have hnt : n ≤ max n m := Nat.le_max_left _ _
  have hmt : m ≤ max n m := Nat.le_max_right _ _
  have htt : max n m ≤ 140737488351232 := Nat.max_le.2 ⟨lp, lq⟩
  have hmk := make8 (max n m) (by omega)
  rw [cast_max] at hmk
  have hmade := fun w : World => Own.made w (max n m)
  have HO0 := Lib.hid hmade
  clear hmade
  generalize max n m = t at *
  go_enter Try.func3, Try.ntmps3
  go_wp2_with ((with_reducible refine wpList_copy_bytes rfl (.tmp 16) (.tmp 17) rfl rfl rfl (List.length_replicate (n := t) (a := (0 : UInt8))) HN.out hnt (HO0.out W) (HP.out.alloc _) (B := W.heap.size) (w0 := W) ((Below.refl _ _).alloc (Nat.le_refl _) _) (Nat.le_refl _) ?_); intro w1 hO hB; have HB := Lib.hid hB; clear hB)
  have HO := Lib.hid hO.out
  clear hO
  go_loopw [21] (fun i wr => ∃ k : Nat, k ≤ m ∧ i = .int .i64 k ∧ Own wr W.heap.size (sumTo p q t k) ∧ Below W.heap.size W wr) (fun i _ => m - (intOf i).toNat)
  case atStart => exact ⟨0, by omega, rfl, by rw [sumTo_zero, HN.out]; have := HO.out; rwa [List.drop_replicate] at this, HB.out⟩
  case round =>
    obtain ⟨k, hk, rfl, hO1, hB1⟩ := hrel
    have HO1 := Lib.hid hO1
    have HB1 := Lib.hid hB1
    by_cases hlt : k < m
    · obtain ⟨b, o, c, rfl, ec, cc⟩ := (HQ.out.below hB1).bytes (k := k) (by rw [HM.out]; exact hlt)
      have cs := hO1.at_ (sumTo_at (p := p) (q := q) (n := t) (k := k) (by rw [HN.out]; exact hnt) (by rw [HM.out]; exact hmt) (by rw [HM.out]; exact hlt))
      have fs := hO1.free k
      have EC := Lib.hid (sumTo_next (p := p) (q := q) (n := t) (by rw [HN.out]; exact hnt) (by rw [HM.out]; exact hmt) ec)
      have i1 : (k : Int) < (t : Int) := by omega
      clear hO1 hB1 ec
      go_wp2
      go_roundw
      case rel => exact ⟨k + 1, by omega, by go_num, by rw [← EC.out]; exact HO1.out.put k _, HB1.out.setCell (Nat.le_refl _) _⟩
      case measure => simp [intOf]; omega
    · obtain rfl : k = m := by omega
      clear hO1 hB1
      have hAt := HA.out A p ca x wr (by rw [HN.out]; omega) (HP.out.below HB1.out)
      rw [HN.out] at hAt
      have HAt := Lib.hid hAt
      clear hAt
      go_wp2_with fail
      refine HAt.out.mono ?_
      rintro e w2 ⟨rfl, hd2⟩
      have HB2 := Lib.hid (HB1.out.trans (hd2.below _))
      have HO2 := Lib.hid (HO1.out.drawn hd2)
      clear hd2
      have hCAt := cAt_c A p ca x (by rw [HN.out]; unfold maxLen; omega) w2 (HP.out.below HB2.out)
      rw [HN.out] at hCAt
      have HCAt := Lib.hid hCAt
      clear hCAt
      go_wp2_with fail
      refine HCAt.out.mono ?_
      rintro e w' ⟨rfl, rfl⟩
      have hS := HS.out A B p q ca cb w2 (by rw [HN.out]; exact lp) (by rw [HM.out]; exact lq) (HP.out.below HB2.out) (HQ.out.below HB2.out)
      rw [HN.out, HM.out] at hS
      have HS2 := Lib.hid hS
      clear hS
      go_wp2_with fail
      refine HS2.out.mono ?_
      rintro e w3 ⟨A3, c3, rfl, hR3, hB3⟩
      have HR3 := Lib.hid hR3
      have HB3 := Lib.hid (HB2.out.trans (hB3.mono HB2.out.size))
      have HO3 := Lib.hid (HO2.out.later hB3)
      clear hR3 hB3
      go_wp2_with fail
      refine (cTrim_n (some ⟨W.heap.size, 0, none⟩) (sumTo p q t k) t t (sumTo_len (by rw [HN.out]; exact hnt) (by rw [HM.out]; exact hmt)) (Nat.le_refl _) (by unfold maxLen; omega) w3 HO3.out.reads).mono ?_
      rintro e w' ⟨rfl, rfl⟩
      have hst : trim (sumTo p q t k) = trim (padd p q) := by rw [← HM.out]; exact sumTo_all
      have HST := Lib.hid hst
      clear hst
      go_wp2_with fail
      refine (equal_same A3 (some ⟨W.heap.size, 0, none⟩) _ _ _ _ w3 HR3.out (trim_reads HO3.out.reads) HST.out.symm).mono ?_
      rintro e w' ⟨rfl, rfl⟩
      have hT := HT.out A B p q ca cb w3 (by rw [HN.out]; exact lp) (by rw [HM.out]; exact lq) (by rw [HN.out]; exact kp) (by rw [HM.out]; exact kq) (HP.out.below HB3.out) (HQ.out.below HB3.out)
      rw [HN.out, HM.out] at hT
      have HT2 := Lib.hid hT
      clear hT
      go_wp2_with fail
      refine HT2.out.mono ?_
      rintro e w4 ⟨A4, c4, rfl, hR4, hB4⟩
      have HR4 := Lib.hid hR4
      have HB4 := Lib.hid (HB3.out.trans (hB4.mono HB3.out.size))
      clear hR4 hB4
      have hCT := cTimes_c A B p q ca cb (by rw [HN.out, HM.out]; omega) w4 (HP.out.below HB4.out) (HQ.out.below HB4.out)
      rw [HN.out, HM.out] at hCT
      have HCT := Lib.hid hCT
      clear hCT
      go_wp2_with fail
      refine HCT.out.mono ?_
      rintro e w5 ⟨A5, c5, rfl, _, hR5, hB5, _⟩
      have HR5 := Lib.hid hR5
      have HB5 := Lib.hid (HB4.out.trans (hB5.mono HB4.out.size))
      have HR4' := Lib.hid (HR4.out.below hB5)
      clear hR5 hB5
      go_wp2_with fail
      refine (equal_same A4 A5 _ _ _ _ w5 HR4'.out HR5.out rfl).mono ?_
      rintro e w' ⟨rfl, rfl⟩
      go_wp2_with fail
      go_ret
      exact ⟨rfl, HB5.out⟩

theorem walk {H : Type} {enc : TypeId × Value → H} {base : Nat} {W : World} {v0 v1 : Value} {d0 d1 : DataW H} {p0 p1 : List MemPlace}
    (o0 : Value.okWide Try.prog W .any base 22 v0) (h0 : DataW.Trod enc Try.prog W 0 (fun _ => true) true 22 v0 d0 p0) (o1 : Value.okWide Try.prog W .any base 22 v1) (h1 : DataW.Trod enc Try.prog W 0 (fun _ => true) true 22 v1 d1 p1)
    (a2 : Int) (w2 : (Lit.int .u8 a2).wf = true) (hz : (DataW.weightsEach Try.prog [22, 22, 5] [d0, d1, .lit (.int .u8 a2)]).all (· ≤ reachBytes) = true) :
    Calls Try.prog 3 #[v0, v1, .int .u8 a2] W (Law.Yes W) := by
  obtain ⟨x2, rfl⟩ := Words.of_wf8 w2
  obtain ⟨A0, c0, l0, rfl, z0, r0, k0, _⟩ := open_bytesZ Try.underlying22 Try.underlying5 (by kernel_rfl) (by kernel_rfl) o0 h0 hz (j := 0) rfl rfl
  obtain ⟨A1, c1, l1, rfl, z1, r1, k1, _⟩ := open_bytesZ Try.underlying22 Try.underlying5 (by kernel_rfl) (by kernel_rfl) o1 h1 hz (j := 1) rfl rfl
  exact words at_c sum_c times_c A0 A1 l0 l1 c0 c1 x2 W r0 r1 z0 z1 k0 k1
theorem own : ownKnob Try.prog.godebug = none := by kernel_rfl
theorem laid : laidOutB Try.prog = true := by kernel_rfl
theorem pars : ∀ t ∈ Try.f3.params.toList, Try.prog.readableRec t = true ∧ t < Try.prog.types.size := by
  have h : Try.f3.params.toList.all (fun t => Try.prog.readableRec t && decide (t < Try.prog.types.size)) = true := by kernel_rfl
  intro t ht; have := List.all_eq_true.1 h t ht; simpa using this
theorem calls (H : Type) (enc : TypeId × Value → H) (W : World) (base : Nat) (args : Array Value) (ds : List (DataW H)) (before : List MemPlace)
    (hval : ∀ (j : Nat) t v, Try.f3.params[j]? = some t → args[j]? = some v → Value.okWide Try.prog W .any base t v)
    (hA : DataW.TrodAll enc Try.prog W 0 (fun _ => true) true Try.f3.params.toList args.toList ds before) (hz : (DataW.weightsEach Try.prog Try.f3.params.toList ds).all (· ≤ reachBytes) = true) :
    Calls Try.prog 3 args W (Law.Yes W) := by
  rw [Try.params3] at hA hval hz
  obtain ⟨v0, vs0, d0, ds0, p0, q0, hargs, rfl, rfl, h0, r0⟩ := trodAll_cons hA
  obtain ⟨v1, vs1, d1, ds1, p1, q1, rfl, rfl, rfl, h1, r1⟩ := trodAll_cons r0
  obtain ⟨v2, vs2, d2, ds2, p2, q2, rfl, rfl, rfl, h2, r2⟩ := trodAll_cons r1
  obtain ⟨rfl, rfl, rfl⟩ := trodAll_nil r2
  obtain rfl : args = #[v0, v1, v2] := by cases args; simp_all
  obtain ⟨a2, rfl, rfl, rfl, w2⟩ := open_int Try.underlying5 (hval 2 5 v2 rfl rfl) h2
  exact walk (W := W) (hval 0 22 v0 rfl rfl) h0 (hval 1 22 v1 rfl rfl) h1 a2 w2 hz
theorem fnOf (H : Type) : ∀ ds : List (DataW H), ds.length = Try.f3.params.toList.length → Rows.curveTellsSpec.fn H ds = { results := [.lit (.bool true)], args := ds } := by
  intro ds h
  have h : ds.length = 3 := h
  obtain _ | ⟨x0, ds⟩ := ds
  · simp at h
  obtain _ | ⟨x1, ds⟩ := ds
  · simp at h
  obtain _ | ⟨x2, ds⟩ := ds
  · simp at h
  obtain rfl : ds = [] := List.eq_nil_of_length_eq_zero (by simpa using h)
  rfl
set_option maxRecDepth 100000 in
theorem lifted (os : Os) (started : os.Started) (H : Type) (enc : TypeId × Value → H) :
    ReturnsInHanded {} Try.checked os 3 .any (Rows.curveTellsSpec.pre6 enc Try.prog Try.f3 Rows.curveTellsRow.domain false) (Rows.curveTellsSpec.post enc Try.prog Try.f3 false true false false) := by
  refine returnsInHanded_of_change_sized (C := Try.checked) own started (by kernel_rfl) Try.func3
    (ChangeSpec.witness6 (enc := enc) (C := Try.checked) false ⟨#[], #[.slice none 0 0, .slice none 0 0, .int .u8 0], []⟩ 8 (by kernel_rfl) (by kernel_rfl) (by kernel_rfl) (by kernel_rfl)) ?_
  intro W base args ds gs before hval hW _ hz _
  obtain ⟨p, q, hA, hV, rfl, hfz, hnd⟩ := id hW
  obtain ⟨rfl, rfl⟩ := trodVars_none hV
  simp only [List.append_nil] at hz
  have hz2 : (DataW.weightsEach Try.prog Try.f3.params.toList ds).all (· ≤ reachBytes) = true := hz
  exact Law.ending (C := Try.checked) (s := Rows.curveTellsSpec) laid pars rfl Try.underlying4 rfl (fnOf H) hW (calls H enc W base args ds p hval hA hz2)
theorem over : Rows.curveTellsRow.holds Try.pinned (OpenSpec.ofChange Rows.curveTellsSpec) :=
  OpenClaim.holds_of_wide 3 Try.f3 rfl rfl rfl rfl rfl rfl rfl ⟨rfl, rfl, rfl, rfl, rfl⟩ rfl rfl rfl rfl rfl (by kernel_rfl) Try.func3 (by kernel_rfl)
    (of_decide_eq_true (by kernel_rfl)) (by unfold Func.isWrapper; first | (rw [if_pos (by decide +kernel)]; kernel_rfl) | (rw [if_neg (by decide +kernel)]; exact ⟨rfl, rfl⟩))
    (fun os started H enc _ => lifted os started H enc)
theorem proved : Rows.CurveTellsSaid := over
end Go.Proofs.Ytjfaadelhkjpfaa.curveTells
