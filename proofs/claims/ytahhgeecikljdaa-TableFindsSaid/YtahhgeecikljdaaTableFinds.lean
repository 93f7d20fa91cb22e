/-
  TableFinds: for all ids, every size and every key, the law TableFinds answers true (a key belongs to a node of the table, the same one with the same table), and its arguments read afterwards as before. No condition.
-/
import Derived.Test.YtahhgeecikljdaaTbFuncs
import Derived.Test.YtahhgeecikljdaaInts
import Derived.Test.YtahhgeecikljdaaLaw
namespace Go.Proofs.Ytahhgeecikljdaa.tableFinds
open Go.ChangeShapes Go.WideShapes Go.ChangeAt Go.RowKit
open Mem Tb
set_option linter.unusedVariables false
set_option linter.unusedSimpArgs false

set_option maxHeartbeats 4000000 in
theorem bad (A : Option Addr) (ids : List Int) (n ca : Nat) (size : Int) (key : UInt64) (W : World) (k : Int) (hn : ids.length = n) (hb : n ≤ 17592186044416) (hx : Reads W A (ids.map (Value.int .i64))) (hwf : ∀ x ∈ ids, (Lit.int .i64 x).wf = true)
    (hk : tErr ids size = k) (h0 : k ≠ 0) :
    Calls Try.prog 7 #[.slice A n ca, .int .i64 size, .int .u64 key.toNat] W (Law.Yes W) := by
  have AL := Lib.hid (alive_c W)
  have MK := Lib.hid (show ∀ (V : World) (A : Option Addr) (ca : Nat), Reads V A (ids.map (Value.int .i64)) → Calls Try.prog 9 #[.slice A n ca, .int .i64 size] V (Gave (.tuple #[.slice none 0 0, .int .i64 k]) V) from fun V A ca hR => make_bad A ids n ca size k V hn (by unfold maxLen; omega) hR hwf hk h0)
  have CL := Lib.hid (fun V (hB : Below W.heap.size W V) => clone_z A ids n ca V hn hb (hx.below hB))
  have FN := Lib.hid (fun V => find_none none 0 key V)
  have HX := Lib.hid hx
  have hv := tErr_vals ids size
  rw [hk] at hv
  clear hn hb hx hwf hk
  rcases hv with rfl | rfl | rfl | rfl | rfl
  · exact absurd rfl h0
  all_goals
    clear h0
    go_enter Try.func7, Try.ntmps7
    go_wp2_with fail
    refine AL.out.mono ?_
    rintro e w1 ⟨rfl, hb1⟩
    have B1 := Lib.hid hb1
    clear hb1
    go_wp2_with fail
    refine (MK.out _ _ _ (HX.out.below B1.out)).mono ?_
    rintro e w2 ⟨rfl, hb2⟩
    have B2 := Lib.hid (B1.out.trans (hb2.mono B1.out.size))
    clear hb2 B1 AL
    go_wp2_with fail
    refine (FN.out _).mono ?_
    rintro e w3 ⟨rfl, rfl⟩
    go_wp2_with fail
    refine (CL.out _ B2.out).mono ?_
    rintro e w4 ⟨A4, c4, rfl, _, hr4, hb4⟩
    have B4 := Lib.hid (B2.out.trans (hb4.mono B2.out.size))
    have R4 := Lib.hid hr4
    clear hb4 hr4 B2 CL
    go_wp2_with fail
    refine (MK.out _ _ _ R4.out).mono ?_
    rintro e w5 ⟨rfl, hb5⟩
    have B5 := Lib.hid (B4.out.trans (hb5.mono B4.out.size))
    clear hb5 B4 MK R4
    go_wp2_with fail
    refine (FN.out _).mono ?_
    rintro e w6 ⟨rfl, rfl⟩
    go_wp2
    go_ret
    exact ⟨rfl, B5.out⟩
theorem fnd_mem {t : List Int} (key : UInt64) (h : 0 < t.length) : fnd t key ∈ t := List.mem_of_getElem? (fnd_at key h)
set_option maxRecDepth 100000 in
set_option maxHeartbeats 8000000 in
theorem good (A : Option Addr) (ids : List Int) (n ca p : Nat) (key : UInt64) (W : World) (hn : ids.length = n) (hx : Reads W A (ids.map (Value.int .i64))) (hwf : ∀ x ∈ ids, (Lit.int .i64 x).wf = true) (hk : tErr ids p = 0) :
    Calls Try.prog 7 #[.slice A n ca, .int .i64 p, .int .u64 key.toNat] W (Law.Yes W) := by
  obtain ⟨q, hq, hp1, hp2, hn1, hn2, hnp, hid, hnd, _⟩ := tErr_zero hk
  obtain rfl : p = q := by omega
  have hpp := hp1.1
  have AL := Lib.hid (alive_c W)
  have MK := Lib.hid (show ∀ (V : World) (A : Option Addr) (ca : Nat), Reads V A (ids.map (Value.int .i64)) → Calls Try.prog 9 #[.slice A n ca, .int .i64 p] V (MakeOut (table ids p) p V) from fun V A ca hR => make_ok A ids n ca p V hn hR hwf hk)
  have CL := Lib.hid (fun V (hB : Below W.heap.size W V) => clone_z A ids n ca V hn (by omega) (hx.below hB))
  have FN := Lib.hid (show ∀ (V : World) (g : Nat), Cells V g 3 zz (table ids p) → _ from fun V g h => find_ok (some ⟨g, 0, none⟩) (table ids p) p p key V (table_len _ _) (by omega) (by omega) h.reads)
  have MEM := Lib.hid (show fnd (table ids p) key ∈ ids from table_mem hp1 hn1 (fnd_mem key (by rw [table_len]; omega)))
  have CO := Lib.hid (fun V (hB : Below W.heap.size W V) => Jump.contains_c A ids n ca (fnd (table ids p) key) V hn (by omega) (hx.below hB) true (decide_eq_true MEM.out))
  have EQ := Lib.hid (show ∀ (V : World) (g h : Nat), Cells V g 3 zz (table ids p) → Cells V h 3 zz (table ids p) → Calls Try.prog 14 #[.slice (some ⟨g, 0, none⟩) p p, .slice (some ⟨h, 0, none⟩) p p] V (Gave (.bool true) V) from fun V g h h1 h2 => by
    have := Jump.equalZ_c (some ⟨g, 0, none⟩) (some ⟨h, 0, none⟩) (table ids p) (table ids p) p p p p V (table_len _ _) (table_len _ _) (by omega) (by omega) h1.reads h2.reads
    rw [decide_eq_true rfl] at this
    exact this)
  have HX := Lib.hid hx
  generalize fnd (table ids p) key = v at *
  generalize table ids p = t at *
  clear hk hq hp1 hid hnd hx hwf hn
  go_enter Try.func7, Try.ntmps7
  go_wp2_with fail
  refine AL.out.mono ?_
  rintro e w1 ⟨rfl, hb1⟩
  have B1 := Lib.hid hb1
  clear hb1
  go_wp2_with fail
  refine (MK.out _ _ _ (HX.out.below B1.out)).mono ?_
  rintro e w2 ⟨g, rfl, hg, hc, hb2⟩
  have B2 := Lib.hid (B1.out.trans (hb2.mono B1.out.size))
  have C2 := Lib.hid hc
  clear hb2 B1 AL hc hg
  go_wp2_with fail
  refine (FN.out _ _ C2.out).mono ?_
  rintro e w3 ⟨rfl, rfl⟩
  go_wp2_with fail
  refine (CL.out _ B2.out).mono ?_
  rintro e w4 ⟨A4, c4, rfl, _, hr4, hb4⟩
  have B4 := Lib.hid (B2.out.trans (hb4.mono B2.out.size))
  have R4 := Lib.hid hr4
  have C4 := Lib.hid (C2.out.later hb4)
  clear hb4 hr4 B2 CL C2
  go_wp2_with fail
  refine (MK.out _ _ _ R4.out).mono ?_
  rintro e w5 ⟨h, rfl, hh, hc5, hb5⟩
  have B5 := Lib.hid (B4.out.trans (hb5.mono B4.out.size))
  have C5 := Lib.hid (C4.out.later hb5)
  have D5 := Lib.hid hc5
  clear hb5 B4 MK R4 C4 hc5 hh
  go_wp2_with fail
  refine (FN.out _ _ D5.out).mono ?_
  rintro e w6 ⟨rfl, rfl⟩
  go_wp2_with fail
  refine (CO.out _ B5.out).mono ?_
  rintro e w7 ⟨rfl, rfl⟩
  go_wp2_with fail
  refine (EQ.out _ _ _ C5.out D5.out).mono ?_
  rintro e w8 ⟨rfl, hb8⟩
  have B8 := Lib.hid (B5.out.trans (hb8.mono B5.out.size))
  clear hb8
  go_wp2
  go_ret
  exact ⟨rfl, B8.out⟩
set_option maxRecDepth 100000 in
theorem walk {H : Type} {enc : TypeId × Value → H} {base : Nat} {W : World} {v0 : Value} {d0 : DataW H} {p0 : List MemPlace}
    (o0 : Value.okWide Try.prog W .any base 22 v0) (h0 : DataW.Trod enc Try.prog W 0 (fun _ => true) true 22 v0 d0 p0) (a1 : Int) (w1 : (Lit.int .i64 a1).wf = true) (a2 : Int) (w2 : (Lit.int .u64 a2).wf = true) {d1 d2 : DataW H}
    (hz : (DataW.weightsEach Try.prog [22, 3, 23] [d0, d1, d2]).all (· ≤ reachBytes) = true) :
    Calls Try.prog 7 #[v0, .int .i64 a1, .int .u64 a2] W (Law.Yes W) := by
  obtain ⟨A, ca, ids, rfl, hl, hx, hc, _, hwf⟩ := open_i64sZ Try.underlying22 Try.underlying3 (by kernel_rfl) (by kernel_rfl) o0 h0 hz (j := 0) rfl rfl
  obtain ⟨key, rfl⟩ := Words.of_wf64 w2
  by_cases h : tErr ids a1 = 0
  · obtain ⟨p, rfl, _⟩ := tErr_zero h
    exact good A ids _ ca p key W rfl hx hwf h
  · exact bad A ids _ ca a1 key W _ rfl hl hx hwf rfl h
theorem own : ownKnob Try.prog.godebug = none := by kernel_rfl
theorem laid : laidOutB Try.prog = true := by kernel_rfl
theorem pars : ∀ t ∈ Try.f7.params.toList, Try.prog.readableRec t = true ∧ t < Try.prog.types.size := by
  have h : Try.f7.params.toList.all (fun t => Try.prog.readableRec t && decide (t < Try.prog.types.size)) = true := by kernel_rfl
  intro t ht; have := List.all_eq_true.1 h t ht; simpa using this
set_option maxRecDepth 100000 in
theorem calls (H : Type) (enc : TypeId × Value → H) (W : World) (base : Nat) (args : Array Value) (ds : List (DataW H)) (before : List MemPlace)
    (hval : ∀ (j : Nat) t v, Try.f7.params[j]? = some t → args[j]? = some v → Value.okWide Try.prog W .any base t v)
    (hA : DataW.TrodAll enc Try.prog W 0 (fun _ => true) true Try.f7.params.toList args.toList ds before) (hz : (DataW.weightsEach Try.prog Try.f7.params.toList ds).all (· ≤ reachBytes) = true) :
    Calls Try.prog 7 args W (Law.Yes W) := by
  rw [Try.params7] at hA hval hz
  obtain ⟨v0, vs0, d0, ds0, p0, q0, hargs, rfl, rfl, h0, r0⟩ := trodAll_cons hA
  obtain ⟨v1, vs1, d1, ds1, p1, q1, rfl, rfl, rfl, h1, r1⟩ := trodAll_cons r0
  obtain ⟨v2, vs2, d2, ds2, p2, q2, rfl, rfl, rfl, h2, r2⟩ := trodAll_cons r1
  obtain ⟨rfl, rfl, rfl⟩ := trodAll_nil r2
  obtain rfl : args = #[v0, v1, v2] := by cases args; simp_all
  obtain ⟨a1, rfl, rfl, rfl, w1⟩ := open_int Try.underlying3 (hval 1 3 v1 rfl rfl) h1
  obtain ⟨a2, rfl, rfl, rfl, w2⟩ := open_int Try.underlying23 (hval 2 23 v2 rfl rfl) h2
  exact walk (W := W) (hval 0 22 v0 rfl rfl) h0 a1 w1 a2 w2 hz
theorem fnOf (H : Type) : ∀ ds : List (DataW H), ds.length = Try.f7.params.toList.length → Rows.tableFindsSpec.fn H ds = { results := [.lit (.bool true)], args := ds } := by
  intro ds h
  have h : ds.length = 3 := h
  obtain _ | ⟨x0, ds⟩ := ds
  · simp at h
  obtain _ | ⟨x1, ds⟩ := ds
  · simp at h
  obtain _ | ⟨x2, ds⟩ := ds
  · simp at h
  obtain rfl : ds = [] := List.eq_nil_of_length_eq_zero (by simpa using h)
  rfl
set_option maxRecDepth 100000 in
theorem lifted (os : Os) (started : os.Started) (H : Type) (enc : TypeId × Value → H) :
    ReturnsInHanded {} Try.checked os 7 .any (Rows.tableFindsSpec.pre6 enc Try.prog Try.f7 Rows.tableFindsRow.domain false) (Rows.tableFindsSpec.post enc Try.prog Try.f7 false true false false) := by
  refine returnsInHanded_of_change_sized (C := Try.checked) own started (by kernel_rfl) Try.func7
    (ChangeSpec.witness6 (enc := enc) (C := Try.checked) false ⟨#[], #[.slice none 0 0, .int .i64 0, .int .u64 0], []⟩ 8 (by kernel_rfl) (by kernel_rfl) (by kernel_rfl) (by kernel_rfl)) ?_
  intro W base args ds gs before hval hW _ hz _
  obtain ⟨p, q, hA, hV, rfl, hfz, hnd⟩ := id hW
  obtain ⟨rfl, rfl⟩ := trodVars_none hV
  simp only [List.append_nil] at hz
  have hz2 : (DataW.weightsEach Try.prog Try.f7.params.toList ds).all (· ≤ reachBytes) = true := hz
  exact Law.ending (C := Try.checked) (s := Rows.tableFindsSpec) laid pars rfl Try.underlying4 rfl (fnOf H) hW (calls H enc W base args ds p hval hA hz2)
theorem over : Rows.tableFindsRow.holds Try.pinned (OpenSpec.ofChange Rows.tableFindsSpec) :=
  OpenClaim.holds_of_wide 7 Try.f7 rfl rfl rfl rfl rfl rfl rfl ⟨rfl, rfl, rfl, rfl, rfl⟩ rfl rfl rfl rfl rfl (by kernel_rfl) Try.func7 (by kernel_rfl)
    (of_decide_eq_true (by kernel_rfl)) (by unfold Func.isWrapper; first | (rw [if_pos (by decide +kernel)]; kernel_rfl) | (rw [if_neg (by decide +kernel)]; exact ⟨rfl, rfl⟩))
    (fun os started H enc _ => lifted os started H enc)
theorem proved : Rows.TableFindsSaid := over
end Go.Proofs.Ytahhgeecikljdaa.tableFinds
