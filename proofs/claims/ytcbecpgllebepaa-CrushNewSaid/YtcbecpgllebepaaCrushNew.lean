/-
  CrushNew: for every key, all hosts, a host that comes and every number asked for, the law CrushNew answers true (a host that comes takes one copy of a key, at most), and its arguments read afterwards as before. No condition.
-/
import Derived.Test.YtcbecpgllebepaaCrNewW
import Derived.Test.YtcbecpgllebepaaCrProg
import Derived.Lib.SmallJoins
namespace Go.Proofs.Ytcbecpgllebepaa.crushNew
open Go.ChangeShapes Go.WideShapes Go.ChangeAt Go.RowKit
open Mem Straw Crush
set_option linter.unusedVariables false
set_option linter.unusedSimpArgs false

theorem words (key : UInt64) (A : Option Addr) (hs : List Ht) (n ca : Nat) (x : Ht) (u : Value) (many : Int) (W : World) (hn : hs.length = n) (hb : n ≤ 4398046511104) (hca : n ≤ ca) (hx : HRds W A hs) (hf : FitsH hs) (hu : IsDevs W u x.2) (hfx : FitsH [x]) :
    Calls Try.prog 7 #[.int .u64 key.toNat, .slice A n ca, .agg #[.int .i64 x.1, u], .int .i64 many] W (Law.Yes W) :=
  new_try placeS movedS key A hs n ca x u many W hn hb hca hx hf hu hfx _ _ rfl rfl _ _ _ _ rfl rfl rfl rfl
set_option maxRecDepth 100000 in
theorem walk {H : Type} {enc : TypeId × Value → H} {base : Nat} {W : World} (a0 : Int) (w0 : (Lit.int .u64 a0).wf = true) {v1 : Value} {d1 : DataW H} {p1 : List MemPlace}
    (o1 : Value.okWide Try.prog W .any base 23 v1) (h1 : DataW.Trod enc Try.prog W 0 (fun _ => true) true 23 v1 d1 p1) {v2 : Value} {d2 : DataW H} {p2 : List MemPlace}
    (o2 : Value.okWide Try.prog W .any base 43 v2) (h2 : DataW.Trod enc Try.prog W 0 (fun _ => true) true 43 v2 d2 p2) (a3 : Int) (w3 : (Lit.int .i64 a3).wf = true) {d0 : DataW H} {d3 : DataW H}
    (hz : (DataW.weightsEach Try.prog [22, 23, 43, 3] [d0, d1, d2, d3]).all (· ≤ reachBytes) = true) :
    Calls Try.prog 7 #[.int .u64 a0, v1, v2, .int .i64 a3] W (Law.Yes W) := by
  obtain ⟨A, ca, hs, rfl, hl, hc, _, hx, hf⟩ := open_hostsZ o1 h1 hz (j := 1) rfl rfl
  obtain ⟨key, rfl⟩ := Words.of_wf64 w0
  obtain ⟨v0, v1, y0, y1, n, rfl, rfl, _, t0, t1⟩ := Go.Joins.open_agg2 fieldsHost hostOne hostCells o2 h2
  obtain ⟨z0, e0, _, wz⟩ := DataW.trod_int Try.underlying3 t0
  simp at e0
  subst e0
  obtain ⟨ds, hd, hfd⟩ := devs_cell Try.underlying41 fieldsIt itOne itCells itBytes Try.underlying3 Try.underlying3 t1 (fun q hq => by
    have := List.all_eq_true.1 hz _ (DataW.weights_mem_each (j := 2) (t := 43) rfl rfl q (by
      simp only [DataW.weights, fieldsHost, List.map_cons, List.map_nil, DataW.weightsEach, List.append_nil]
      exact List.mem_append_right _ hq))
    simpa using this)
  exact words key A hs _ ca (z0, ds) v1 a3 W rfl hl hc hx hf hd (fun h hh => by simp at hh; subst hh; exact ⟨wz, hfd⟩)
theorem own : ownKnob Try.prog.godebug = none := by kernel_rfl
theorem laid : laidOutB Try.prog = true := by kernel_rfl
theorem pars : ∀ t ∈ Try.f7.params.toList, Try.prog.readableRec t = true ∧ t < Try.prog.types.size := by
  have h : Try.f7.params.toList.all (fun t => Try.prog.readableRec t && decide (t < Try.prog.types.size)) = true := by kernel_rfl
  intro t ht; have := List.all_eq_true.1 h t ht; simpa using this
set_option maxRecDepth 100000 in
theorem calls (H : Type) (enc : TypeId × Value → H) (W : World) (base : Nat) (args : Array Value) (ds : List (DataW H)) (before : List MemPlace)
    (hval : ∀ (j : Nat) t v, Try.f7.params[j]? = some t → args[j]? = some v → Value.okWide Try.prog W .any base t v)
    (hA : DataW.TrodAll enc Try.prog W 0 (fun _ => true) true Try.f7.params.toList args.toList ds before) (hz : (DataW.weightsEach Try.prog Try.f7.params.toList ds).all (· ≤ reachBytes) = true) :
    Calls Try.prog 7 args W (Law.Yes W) := by
  rw [Try.params7] at hA hval hz
  obtain ⟨v0, vs0, d0, ds0, p0, q0, hargs, rfl, rfl, h0, r0⟩ := trodAll_cons hA
  obtain ⟨v1, vs1, d1, ds1, p1, q1, rfl, rfl, rfl, h1, r1⟩ := trodAll_cons r0
  obtain ⟨v2, vs2, d2, ds2, p2, q2, rfl, rfl, rfl, h2, r2⟩ := trodAll_cons r1
  obtain ⟨v3, vs3, d3, ds3, p3, q3, rfl, rfl, rfl, h3, r3⟩ := trodAll_cons r2
  obtain ⟨rfl, rfl, rfl⟩ := trodAll_nil r3
  obtain rfl : args = #[v0, v1, v2, v3] := by cases args; simp_all
  obtain ⟨a0, rfl, rfl, rfl, w0⟩ := open_int Try.underlying22 (hval 0 22 v0 rfl rfl) h0
  obtain ⟨a3, rfl, rfl, rfl, w3⟩ := open_int Try.underlying3 (hval 3 3 v3 rfl rfl) h3
  exact walk (W := W) a0 w0 (hval 1 23 v1 rfl rfl) h1 (hval 2 43 v2 rfl rfl) h2 a3 w3 hz
theorem fnOf (H : Type) : ∀ ds : List (DataW H), ds.length = Try.f7.params.toList.length → Rows.crushNewSpec.fn H ds = { results := [.lit (.bool true)], args := ds } := by
  intro ds h
  have h : ds.length = 4 := h
  obtain _ | ⟨x0, ds⟩ := ds
  · simp at h
  obtain _ | ⟨x1, ds⟩ := ds
  · simp at h
  obtain _ | ⟨x2, ds⟩ := ds
  · simp at h
  obtain _ | ⟨x3, ds⟩ := ds
  · simp at h
  obtain rfl : ds = [] := List.eq_nil_of_length_eq_zero (by simpa using h)
  rfl
set_option maxRecDepth 100000 in
theorem lifted (os : Os) (started : os.Started) (H : Type) (enc : TypeId × Value → H) :
    ReturnsInHanded {} Try.checked os 7 .any (Rows.crushNewSpec.pre6 enc Try.prog Try.f7 Rows.crushNewRow.domain false) (Rows.crushNewSpec.post enc Try.prog Try.f7 false true false false) := by
  refine returnsInHanded_of_change_sized (C := Try.checked) own started (by kernel_rfl) Try.func7
    (ChangeSpec.witness6 (enc := enc) (C := Try.checked) false ⟨#[], #[.int .u64 0, .slice none 0 0, .agg #[.int .i64 0, .slice none 0 0], .int .i64 0], []⟩ 8 (by kernel_rfl) (by kernel_rfl) (by kernel_rfl) (by kernel_rfl)) ?_
  intro W base args ds gs before hval hW _ hz _
  obtain ⟨p, q, hA, hV, rfl, hfz, hnd⟩ := id hW
  obtain ⟨rfl, rfl⟩ := trodVars_none hV
  simp only [List.append_nil] at hz
  have hz2 : (DataW.weightsEach Try.prog Try.f7.params.toList ds).all (· ≤ reachBytes) = true := hz
  exact Law.ending (C := Try.checked) (s := Rows.crushNewSpec) laid pars rfl Try.underlying4 rfl (fnOf H) hW (calls H enc W base args ds p hval hA hz2)
theorem over : Rows.crushNewRow.holds Try.pinned (OpenSpec.ofChange Rows.crushNewSpec) :=
  OpenClaim.holds_of_wide 7 Try.f7 rfl rfl rfl rfl rfl rfl rfl ⟨rfl, rfl, rfl, rfl, rfl⟩ rfl rfl rfl rfl rfl (by kernel_rfl) Try.func7 (by kernel_rfl)
    (of_decide_eq_true (by kernel_rfl)) (by unfold Func.isWrapper; first | (rw [if_pos (by decide +kernel)]; kernel_rfl) | (rw [if_neg (by decide +kernel)]; exact ⟨rfl, rfl⟩))
    (fun os started H enc _ => lifted os started H enc)
theorem proved : Rows.CrushNewSaid := over
end Go.Proofs.Ytcbecpgllebepaa.crushNew
