/-
  CrushMoves: for all keys, all hosts before and after, and every number asked for, the law CrushMoves answers true (Moved answers what the document says), and its arguments read afterwards as before. No condition.
-/
import Derived.Test.YtcbecpgllebepaaCrMovesW
import Derived.Test.YtcbecpgllebepaaCrKq
import Derived.Test.YtcbecpgllebepaaCrProg
import Derived.Test.YtcbecpgllebepaaU64s
namespace Go.Proofs.Ytcbecpgllebepaa.crushMoves
open Go.ChangeShapes Go.WideShapes Go.ChangeAt Go.RowKit
open Mem Straw Crush
set_option linter.unusedVariables false
set_option linter.unusedSimpArgs false

theorem words (K : Option Addr) (ks : List UInt64) (nk ck : Nat) (A : Option Addr) (a : List Ht) (na ca : Nat) (B : Option Addr) (b : List Ht) (nb cb : Nat) (many : Int) (W : World)
    (hk : ks.length = nk) (hkb : nk ≤ 17592186044416) (hK : Reads W K (ks.map word64)) (ha : a.length = na) (hab : na ≤ 4398046511104) (hac : na ≤ ca) (hA : HRds W A a) (hAf : FitsH a) (hb : b.length = nb) (hbb : nb ≤ 4398046511104) (hbc : nb ≤ cb) (hB : HRds W B b) (hBf : FitsH b) :
    Calls Try.prog 4 #[.slice K nk ck, .slice A na ca, .slice B nb cb, .int .i64 many] W (Law.Yes W) := by
  have hM := movedS K ks nk ck A a na ca B b nb cb many W hk hkb hK ha (by omega) hac hA hAf hb (by omega) hbc hB hBf
  by_cases h : nk ≤ 400
  · exact moves_core kplaceS K ks nk ck A a na ca B b nb cb many W hk h hK ha hab hac hA hAf hb hbb hbc hB hBf (Lib.hid hM)
  · have e1 : mvE ks a b many = 2 := by unfold mvE; rw [if_pos (by omega)]
    have e2 : mvN ks a b many = 0 := by unfold mvN; rw [e1, if_neg (by decide)]
    rw [e1, e2] at hM
    exact moves_many K nk ck A na ca B nb cb many W (by omega) (Lib.hid hM)
theorem keys_of {zs : List Int} (h : ∀ z ∈ zs, (Lit.int .u64 z).wf = true) : ∃ ks : List UInt64, ks.length = zs.length ∧ ks.map word64 = zs.map (Value.int .u64) := by
  induction zs with
  | nil => exact ⟨[], rfl, rfl⟩
  | cons z zs ih =>
    obtain ⟨ks, h1, h2⟩ := ih (fun z hz => h z (by simp [hz]))
    obtain ⟨k, rfl⟩ := Words.of_wf64 (h z (by simp))
    exact ⟨k :: ks, by simp [h1], by simp [h2, word64]⟩
set_option maxRecDepth 100000 in
theorem walk {H : Type} {enc : TypeId × Value → H} {base : Nat} {W : World} {v0 : Value} {d0 : DataW H} {p0 : List MemPlace}
    (o0 : Value.okWide Try.prog W .any base 33 v0) (h0 : DataW.Trod enc Try.prog W 0 (fun _ => true) true 33 v0 d0 p0) {v1 : Value} {d1 : DataW H} {p1 : List MemPlace}
    (o1 : Value.okWide Try.prog W .any base 23 v1) (h1 : DataW.Trod enc Try.prog W 0 (fun _ => true) true 23 v1 d1 p1) {v2 : Value} {d2 : DataW H} {p2 : List MemPlace}
    (o2 : Value.okWide Try.prog W .any base 23 v2) (h2 : DataW.Trod enc Try.prog W 0 (fun _ => true) true 23 v2 d2 p2) (a3 : Int) (w3 : (Lit.int .i64 a3).wf = true) {d3 : DataW H}
    (hz : (DataW.weightsEach Try.prog [33, 23, 23, 3] [d0, d1, d2, d3]).all (· ≤ reachBytes) = true) :
    Calls Try.prog 4 #[v0, v1, v2, .int .i64 a3] W (Law.Yes W) := by
  obtain ⟨A, ca, hs, rfl, hl, hc, _, hx, hf⟩ := open_hostsZ o1 h1 hz (j := 1) rfl rfl
  obtain ⟨B, cb, hs2, rfl, hl2, hc2, _, hx2, hf2⟩ := open_hostsZ o2 h2 hz (j := 2) rfl rfl
  obtain ⟨K, ck, zs, rfl, hzl, hr, hzc, _, hwf⟩ := open_u64sZ Try.underlying33 Try.underlying22 (by kernel_rfl) (by kernel_rfl) o0 h0 hz (j := 0) rfl rfl
  obtain ⟨ks, hk1, hk2⟩ := keys_of hwf
  rw [← hk2] at hr
  exact words K ks zs.length ck A hs hs.length ca B hs2 hs2.length cb a3 W hk1 hzl hr rfl hl hc hx hf rfl hl2 hc2 hx2 hf2
theorem own : ownKnob Try.prog.godebug = none := by kernel_rfl
theorem laid : laidOutB Try.prog = true := by kernel_rfl
theorem pars : ∀ t ∈ Try.f4.params.toList, Try.prog.readableRec t = true ∧ t < Try.prog.types.size := by
  have h : Try.f4.params.toList.all (fun t => Try.prog.readableRec t && decide (t < Try.prog.types.size)) = true := by kernel_rfl
  intro t ht; have := List.all_eq_true.1 h t ht; simpa using this
set_option maxRecDepth 100000 in
theorem calls (H : Type) (enc : TypeId × Value → H) (W : World) (base : Nat) (args : Array Value) (ds : List (DataW H)) (before : List MemPlace)
    (hval : ∀ (j : Nat) t v, Try.f4.params[j]? = some t → args[j]? = some v → Value.okWide Try.prog W .any base t v)
    (hA : DataW.TrodAll enc Try.prog W 0 (fun _ => true) true Try.f4.params.toList args.toList ds before) (hz : (DataW.weightsEach Try.prog Try.f4.params.toList ds).all (· ≤ reachBytes) = true) :
    Calls Try.prog 4 args W (Law.Yes W) := by
  rw [Try.params4] at hA hval hz
  obtain ⟨v0, vs0, d0, ds0, p0, q0, hargs, rfl, rfl, h0, r0⟩ := trodAll_cons hA
  obtain ⟨v1, vs1, d1, ds1, p1, q1, rfl, rfl, rfl, h1, r1⟩ := trodAll_cons r0
  obtain ⟨v2, vs2, d2, ds2, p2, q2, rfl, rfl, rfl, h2, r2⟩ := trodAll_cons r1
  obtain ⟨v3, vs3, d3, ds3, p3, q3, rfl, rfl, rfl, h3, r3⟩ := trodAll_cons r2
  obtain ⟨rfl, rfl, rfl⟩ := trodAll_nil r3
  obtain rfl : args = #[v0, v1, v2, v3] := by cases args; simp_all
  obtain ⟨a3, rfl, rfl, rfl, w3⟩ := open_int Try.underlying3 (hval 3 3 v3 rfl rfl) h3
  exact walk (W := W) (hval 0 33 v0 rfl rfl) h0 (hval 1 23 v1 rfl rfl) h1 (hval 2 23 v2 rfl rfl) h2 a3 w3 hz
theorem fnOf (H : Type) : ∀ ds : List (DataW H), ds.length = Try.f4.params.toList.length → Rows.crushMovesSpec.fn H ds = { results := [.lit (.bool true)], args := ds } := by
  intro ds h
  have h : ds.length = 4 := h
  obtain _ | ⟨x0, ds⟩ := ds
  · simp at h
  obtain _ | ⟨x1, ds⟩ := ds
  · simp at h
  obtain _ | ⟨x2, ds⟩ := ds
  · simp at h
  obtain _ | ⟨x3, ds⟩ := ds
  · simp at h
  obtain rfl : ds = [] := List.eq_nil_of_length_eq_zero (by simpa using h)
  rfl
set_option maxRecDepth 100000 in
theorem lifted (os : Os) (started : os.Started) (H : Type) (enc : TypeId × Value → H) :
    ReturnsInHanded {} Try.checked os 4 .any (Rows.crushMovesSpec.pre6 enc Try.prog Try.f4 Rows.crushMovesRow.domain false) (Rows.crushMovesSpec.post enc Try.prog Try.f4 false true false false) := by
  refine returnsInHanded_of_change_sized (C := Try.checked) own started (by kernel_rfl) Try.func4
    (ChangeSpec.witness6 (enc := enc) (C := Try.checked) false ⟨#[], #[.slice none 0 0, .slice none 0 0, .slice none 0 0, .int .i64 0], []⟩ 8 (by kernel_rfl) (by kernel_rfl) (by kernel_rfl) (by kernel_rfl)) ?_
  intro W base args ds gs before hval hW _ hz _
  obtain ⟨p, q, hA, hV, rfl, hfz, hnd⟩ := id hW
  obtain ⟨rfl, rfl⟩ := trodVars_none hV
  simp only [List.append_nil] at hz
  have hz2 : (DataW.weightsEach Try.prog Try.f4.params.toList ds).all (· ≤ reachBytes) = true := hz
  exact Law.ending (C := Try.checked) (s := Rows.crushMovesSpec) laid pars rfl Try.underlying4 rfl (fnOf H) hW (calls H enc W base args ds p hval hA hz2)
theorem over : Rows.crushMovesRow.holds Try.pinned (OpenSpec.ofChange Rows.crushMovesSpec) :=
  OpenClaim.holds_of_wide 4 Try.f4 rfl rfl rfl rfl rfl rfl rfl ⟨rfl, rfl, rfl, rfl, rfl⟩ rfl rfl rfl rfl rfl (by kernel_rfl) Try.func4 (by kernel_rfl)
    (of_decide_eq_true (by kernel_rfl)) (by unfold Func.isWrapper; first | (rw [if_pos (by decide +kernel)]; kernel_rfl) | (rw [if_neg (by decide +kernel)]; exact ⟨rfl, rfl⟩))
    (fun os started H enc _ => lifted os started H enc)
theorem proved : Rows.CrushMovesSaid := over
end Go.Proofs.Ytcbecpgllebepaa.crushMoves
