/-
  TableLikes: for every id and every size, the law TableLikes answers true (a list of preferences has each position once), and its arguments read afterwards as before. No condition.
-/
import Derived.Test.YtahhgeecikljdaaTbSeq
import Derived.Test.YtahhgeecikljdaaLaw
namespace Go.Proofs.Ytahhgeecikljdaa.tableLikes
open Go.ChangeShapes Go.WideShapes Go.ChangeAt Go.RowKit
open Mem Tb
set_option linter.unusedVariables false
set_option linter.unusedSimpArgs false

set_option maxHeartbeats 4000000 in
theorem bad (x : Int) (hx : (Lit.int .i64 x).wf = true) (size : Int) (W : World) (k : Int) (hk : tErr [x] size = k) (h0 : k ≠ 0) :
    Calls Try.prog 5 #[.int .i64 x, .int .i64 size] W (Law.Yes W) := by
  have AL := Lib.hid (alive_c W)
  have LK := Lib.hid (fun V => likes_bad x hx size k hk h0 V)
  have hv := tErr_vals [x] size
  rw [hk] at hv
  clear hk hx
  rcases hv with rfl | rfl | rfl | rfl | rfl
  · exact absurd rfl h0
  all_goals
    clear h0
    go_enter Try.func5, Try.ntmps5
    go_wp2_with fail
    refine AL.out.mono ?_
    rintro e w1 ⟨rfl, hb1⟩
    have B1 := Lib.hid hb1
    clear hb1
    go_wp2_with fail
    refine (LK.out _).mono ?_
    rintro e w2 ⟨rfl, hb2⟩
    have B2 := Lib.hid (B1.out.trans (hb2.mono B1.out.size))
    clear hb2 B1 LK AL
    go_wp2
    go_ret
    exact ⟨rfl, B2.out⟩
set_option maxRecDepth 100000 in
set_option maxHeartbeats 8000000 in
theorem good (x : Int) (hx : (Lit.int .i64 x).wf = true) (p : Nat) (W : World) (hk : tErr [x] p = 0) :
    Calls Try.prog 5 #[.int .i64 x, .int .i64 p] W (Law.Yes W) := by
  obtain ⟨q, hq, hp1, hp2, _⟩ := tErr_zero hk
  obtain rfl : p = q := by omega
  have hpp := hp1.1
  have AL := Lib.hid (alive_c W)
  have LK := Lib.hid (fun V => likes_ok x p hx hk V)
  have FU := Lib.hid (lik_full x hp1)
  obtain ⟨l, hl⟩ : ∃ l, l = lik x p := ⟨_, rfl⟩
  rw [← hl] at LK FU
  have VA := Lib.hid (fun g V => values_c (some ⟨g, 0, none⟩) p p V)
  have SO := Lib.hid (show ∀ (V : World) (g : Nat), Cells V g 3 nz l → Calls Try.prog 19 #[seqV V.heap.size] (V.alloc (.cells #[.slice (some ⟨g, 0, none⟩) p p] 22)) (fun e w' => ∃ A c, e = .returned (.slice A p c) ∧ Reads w' A ((List.range p).map nz) ∧ Below V.heap.size V w') from fun V g h => by
    have h0 : Below V.heap.size V (V.alloc (.cells #[.slice (some ⟨g, 0, none⟩) p p] 22)) := (Below.refl _ _).alloc (Nat.le_refl _) _
    refine (sorted_c V.heap.size g l p p FU.out (by omega) hp2 _ (Boxed.new V 22 _) (h.alloc _)).mono ?_
    rintro e w' ⟨A, c, rfl, hr, hb⟩
    exact ⟨A, c, rfl, hr, h0.trans (hb.mono h0.size)⟩)
  unfold seqV at VA SO
  clear hk hq hp1 hx hl
  go_enter Try.func5, Try.ntmps5
  go_wp2_with fail
  refine AL.out.mono ?_
  rintro e w1 ⟨rfl, hb1⟩
  have B1 := Lib.hid hb1
  clear hb1
  go_wp2_with fail
  refine (LK.out _).mono ?_
  rintro e w2 ⟨g, rfl, hg, hc, hb2⟩
  have B2 := Lib.hid (B1.out.trans (hb2.mono B1.out.size))
  have SO2 := Lib.hid (SO.out w2 g hc)
  clear hb2 B1 LK AL hc hg SO
  go_wp2_with fail
  refine (VA.out g _).mono ?_
  rintro e w3 ⟨rfl, rfl⟩
  go_wp2_with fail
  refine SO2.out.mono ?_
  rintro e w4 ⟨A, c, rfl, hr, hb4⟩
  have B4 := Lib.hid (B2.out.trans (hb4.mono B2.out.size))
  have R4 := Lib.hid hr
  clear hb4 hr B2 SO2 VA
  go_wp2_with fail
  go_loop [28] (fun i => ∃ k : Nat, k ≤ p ∧ i = .int .i64 k) (fun i => p - (intOf i).toNat)
  case atStart => exact ⟨0, by omega, rfl⟩
  case round =>
    obtain ⟨k, hk, rfl⟩ := hrel
    by_cases hlt : k < p
    · obtain ⟨b, o, rfl, _, c0⟩ := reads_n R4.out (k := k) (x := k) (List.getElem?_range hlt)
      have j1 : (k : Int) < (p : Int) := by omega
      go_wp2
      go_round
      case rel => exact ⟨k + 1, by omega, by go_num⟩
      case measure => simp [intOf]; omega
    · obtain rfl : k = p := by omega
      go_wp2
      go_ret
      exact ⟨rfl, B4.out⟩
theorem walk (a0 : Int) (w0 : (Lit.int .i64 a0).wf = true) (a1 : Int) (w1 : (Lit.int .i64 a1).wf = true) (W : World) :
    Calls Try.prog 5 #[.int .i64 a0, .int .i64 a1] W (Law.Yes W) := by
  by_cases h : tErr [a0] a1 = 0
  · obtain ⟨p, rfl, _⟩ := tErr_zero h
    exact good a0 w0 p W h
  · exact bad a0 w0 a1 W _ rfl h
theorem own : ownKnob Try.prog.godebug = none := by kernel_rfl
theorem laid : laidOutB Try.prog = true := by kernel_rfl
theorem pars : ∀ t ∈ Try.f5.params.toList, Try.prog.readableRec t = true ∧ t < Try.prog.types.size := by
  have h : Try.f5.params.toList.all (fun t => Try.prog.readableRec t && decide (t < Try.prog.types.size)) = true := by kernel_rfl
  intro t ht; have := List.all_eq_true.1 h t ht; simpa using this
set_option maxRecDepth 100000 in
theorem calls (H : Type) (enc : TypeId × Value → H) (W : World) (base : Nat) (args : Array Value) (ds : List (DataW H)) (before : List MemPlace)
    (hval : ∀ (j : Nat) t v, Try.f5.params[j]? = some t → args[j]? = some v → Value.okWide Try.prog W .any base t v)
    (hA : DataW.TrodAll enc Try.prog W 0 (fun _ => true) true Try.f5.params.toList args.toList ds before) :
    Calls Try.prog 5 args W (Law.Yes W) := by
  rw [Try.params5] at hA hval
  obtain ⟨v0, vs0, d0, ds0, p0, q0, hargs, rfl, rfl, h0, r0⟩ := trodAll_cons hA
  obtain ⟨v1, vs1, d1, ds1, p1, q1, rfl, rfl, rfl, h1, r1⟩ := trodAll_cons r0
  obtain ⟨rfl, rfl, rfl⟩ := trodAll_nil r1
  obtain rfl : args = #[v0, v1] := by cases args; simp_all
  obtain ⟨a0, rfl, rfl, rfl, w0⟩ := open_int Try.underlying3 (hval 0 3 v0 rfl rfl) h0
  obtain ⟨a1, rfl, rfl, rfl, w1⟩ := open_int Try.underlying3 (hval 1 3 v1 rfl rfl) h1
  exact walk (W := W) a0 w0 a1 w1
theorem fnOf (H : Type) : ∀ ds : List (DataW H), ds.length = Try.f5.params.toList.length → Rows.tableLikesSpec.fn H ds = { results := [.lit (.bool true)], args := ds } := by
  intro ds h
  have h : ds.length = 2 := h
  obtain _ | ⟨x0, ds⟩ := ds
  · simp at h
  obtain _ | ⟨x1, ds⟩ := ds
  · simp at h
  obtain rfl : ds = [] := List.eq_nil_of_length_eq_zero (by simpa using h)
  rfl
set_option maxRecDepth 100000 in
theorem lifted (os : Os) (started : os.Started) (H : Type) (enc : TypeId × Value → H) :
    ReturnsInHanded {} Try.checked os 5 .any (Rows.tableLikesSpec.pre6 enc Try.prog Try.f5 Rows.tableLikesRow.domain false) (Rows.tableLikesSpec.post enc Try.prog Try.f5 false true false false) := by
  refine returnsInHanded_of_change (C := Try.checked) own started (by kernel_rfl) Try.func5
    (ChangeSpec.witness6 (enc := enc) (C := Try.checked) false ⟨#[], #[.int .i64 0, .int .i64 0], []⟩ 8 (by kernel_rfl) (by kernel_rfl) (by kernel_rfl) (by kernel_rfl)) ?_
  intro W base args ds gs before hval hW _ _
  obtain ⟨p, q, hA, hV, rfl, hfz, hnd⟩ := id hW
  obtain ⟨rfl, rfl⟩ := trodVars_none hV
  exact Law.ending (C := Try.checked) (s := Rows.tableLikesSpec) laid pars rfl Try.underlying4 rfl (fnOf H) hW (calls H enc W base args ds p hval hA)
theorem over : Rows.tableLikesRow.holds Try.pinned (OpenSpec.ofChange Rows.tableLikesSpec) :=
  OpenClaim.holds_of_wide 5 Try.f5 rfl rfl rfl rfl rfl rfl rfl ⟨rfl, rfl, rfl, rfl, rfl⟩ rfl rfl rfl rfl rfl (by kernel_rfl) Try.func5 (by kernel_rfl)
    (of_decide_eq_true (by kernel_rfl)) (by unfold Func.isWrapper; first | (rw [if_pos (by decide +kernel)]; kernel_rfl) | (rw [if_neg (by decide +kernel)]; exact ⟨rfl, rfl⟩))
    (fun os started H enc _ => lifted os started H enc)
theorem proved : Rows.TableLikesSaid := over
end Go.Proofs.Ytahhgeecikljdaa.tableLikes
