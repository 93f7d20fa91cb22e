/-
  TableEven: for all ids and every size, the law TableEven answers true (a table gives each node as many places as the size divided by their number, and one more to the first ones), and its arguments read afterwards as before. No condition.
-/
import Derived.Test.YtahhgeecikljdaaTbCount
import Derived.Test.YtahhgeecikljdaaInts
import Derived.Test.YtahhgeecikljdaaLaw
namespace Go.Proofs.Ytahhgeecikljdaa.tableEven
open Go.ChangeShapes Go.WideShapes Go.ChangeAt Go.RowKit
open Mem Tb
set_option linter.unusedVariables false
set_option linter.unusedSimpArgs false

set_option maxHeartbeats 4000000 in
theorem bad (A : Option Addr) (ids : List Int) (n ca : Nat) (size : Int) (W : World) (k : Int) (hn : ids.length = n) (hb : n ≤ maxLen) (hx : Reads W A (ids.map (Value.int .i64))) (hwf : ∀ x ∈ ids, (Lit.int .i64 x).wf = true)
    (hk : tErr ids size = k) (h0 : k ≠ 0) :
    Calls Try.prog 4 #[.slice A n ca, .int .i64 size] W (Law.Yes W) := by
  have AL := Lib.hid (alive_c W)
  have MK := Lib.hid (fun V (hB : Below W.heap.size W V) => make_bad A ids n ca size k V hn hb (hx.below hB) hwf hk h0)
  have hv := tErr_vals ids size
  rw [hk] at hv
  clear hn hb hx hwf hk
  rcases hv with rfl | rfl | rfl | rfl | rfl
  · exact absurd rfl h0
  all_goals
    clear h0
    go_enter Try.func4, Try.ntmps4
    go_wp2_with fail
    refine AL.out.mono ?_
    rintro e w1 ⟨rfl, hb1⟩
    have B1 := Lib.hid hb1
    clear hb1
    go_wp2_with fail
    refine (MK.out _ B1.out).mono ?_
    rintro e w2 ⟨rfl, hb2⟩
    have B2 := Lib.hid (B1.out.trans (hb2.mono B1.out.size))
    clear hb2 B1 MK AL
    go_wp2
    go_ret
    exact ⟨rfl, B2.out⟩
set_option maxRecDepth 100000 in
set_option maxHeartbeats 8000000 in
theorem good (A : Option Addr) (ids : List Int) (n ca p : Nat) (W : World) (hn : ids.length = n) (hx : Reads W A (ids.map (Value.int .i64))) (hwf : ∀ x ∈ ids, (Lit.int .i64 x).wf = true) (hk : tErr ids p = 0) :
    Calls Try.prog 4 #[.slice A n ca, .int .i64 p] W (Law.Yes W) := by
  obtain ⟨q, hq, hp1, hp2, hn1, hn2, hnp, hid, hnd, _⟩ := tErr_zero hk
  obtain rfl : p = q := by omega
  have AL := Lib.hid (alive_c W)
  have MK := Lib.hid (fun V (hB : Below W.heap.size W V) => make_ok A ids n ca p V hn (hx.below hB) hwf hk)
  have CN := Lib.hid (show ∀ (V : World) (g : Nat), Cells V g 3 zz (table ids p) → Calls Try.prog 18 #[.slice (some ⟨g, 0, none⟩) p p] V (CountOut (table ids p) V) from fun V g h =>
    count_c _ (table ids p) p p V (table_len _ _) hp2 h.reads (fun x hx => hwf x (table_mem hp1 hn1 hx)))
  have NB := Lib.hid (table_nub hp1 hn1 hnp hnd)
  have TC := Lib.hid (show ∀ (k : Nat) (x : Int), ids[k]? = some x → (table ids p).count x = p / n + if k < p % n then 1 else 0 from fun k x h => by
    have h1 : (table ids p).count x = p / ids.length + if k < p % ids.length then 1 else 0 := tb_count (liks_fulls hp1 hn1) rfl hnd h
    rw [hn] at h1
    exact h1)
  have HX := Lib.hid hx
  have HN := Lib.hid hn
  have HW := Lib.hid hwf
  have hpp := hp1.1
  rw [hn] at hn1 hn2 hnp NB
  have dv : (p : Int).tdiv (n : Int) = ((p / n : Nat) : Int) := by rw [Int.tdiv_eq_ediv_of_nonneg (by omega), Int.natCast_ediv]
  have dv2 : (p : Int) / (n : Int) = ((p / n : Nat) : Int) := by rw [Int.natCast_ediv]
  have md : (p : Int).tmod (n : Int) = ((p % n : Nat) : Int) := by rw [Int.tmod_eq_emod_of_nonneg (by omega), Int.natCast_emod]
  have md2 : (p : Int) % (n : Int) = ((p % n : Nat) : Int) := by rw [Int.natCast_emod]
  have db : p / n ≤ p := Nat.div_le_self _ _
  have mb : p % n < n := Nat.mod_lt _ (by omega)
  have d0 : ((n : Int) == 0) = false := by simp; omega
  have d1 : ¬ n = 0 := by omega
  generalize p / n = d at *
  generalize p % n = r at *
  generalize table ids p = t at *
  clear hk hq hp1 hid hnd hx hwf hn
  go_enter Try.func4, Try.ntmps4
  go_wp2_with fail
  refine AL.out.mono ?_
  rintro e w1 ⟨rfl, hb1⟩
  have B1 := Lib.hid hb1
  clear hb1
  go_wp2_with fail
  refine (MK.out _ B1.out).mono ?_
  rintro e w2 ⟨g, rfl, hg, hc, hb2⟩
  have B2 := Lib.hid (B1.out.trans (hb2.mono B1.out.size))
  have C2 := Lib.hid hc
  clear hb2 B1 MK AL hc hg
  go_wp2_with fail
  refine (CN.out _ _ C2.out).mono ?_
  rintro e w3 ⟨b, rfl, hb, hm, hb3⟩
  have B3 := Lib.hid (B2.out.trans (hb3.mono B2.out.size))
  have M3 := Lib.hid hm
  clear hb3 B2 CN C2 hm hb
  go_wp2_with fail
  go_loop [28] (fun i => ∃ k : Nat, k ≤ n ∧ i = .int .i64 k) (fun i => n - (intOf i).toNat)
  case atStart => exact ⟨0, by omega, rfl⟩
  case round =>
    obtain ⟨k, hk, rfl⟩ := hrel
    by_cases hlt : k < n
    · have k1 : k < ids.length := by rw [HN.out]; exact hlt
      obtain ⟨b1, o, rfl, hbl, x0⟩ := reads_z HX.out k1
      have x1 := (B3.out.cell (p := ⟨b1, o + k, none⟩) hbl).trans x0
      have WX := Lib.hid (HW.out ids[k] (List.getElem_mem k1))
      have TX := Lib.hid (TC.out k ids[k] (List.getElem?_eq_getElem k1))
      generalize hu : ids[k] = x at *
      have j1 : (k : Int) < (n : Int) := by omega
      clear hu k1 x0 TC
      by_cases hr : k < r
      · have i2 : decide ((k : Int) < (r : Int)) = true := decide_eq_true (by omega)
        have i3 : (k : Int) < (r : Int) := by omega
        have TY := Lib.hid (show t.count x = d + 1 by rw [TX.out, if_pos hr])
        have e1 : ((d + 1 : Nat) : Int) = (d : Int) + 1 := by omega
        clear TX
        go_wp2_with (refine wpList_lookup_cnt rfl _ _ (by rfl) M3.out x WX.out rfl rfl (d + 1) TY.out ?_)
        go_round
        case rel => exact ⟨k + 1, by omega, by go_num⟩
        case measure => simp [intOf]; omega
      · have i2 : decide ((k : Int) < (r : Int)) = false := decide_eq_false (by omega)
        have i3 : ¬ (k : Int) < (r : Int) := by omega
        have TY := Lib.hid (show t.count x = d by rw [TX.out, if_neg hr]; rfl)
        clear TX
        go_wp2_with (refine wpList_lookup_cnt rfl _ _ (by rfl) M3.out x WX.out rfl rfl d TY.out ?_)
        go_round
        case rel => exact ⟨k + 1, by omega, by go_num⟩
        case measure => simp [intOf]; omega
    · obtain rfl : k = n := by omega
      have hlen := M3.out.len k NB.out
      go_wp2
      go_ret
      exact ⟨rfl, B3.out⟩
set_option maxRecDepth 100000 in
theorem walk {H : Type} {enc : TypeId × Value → H} {base : Nat} {W : World} {v0 : Value} {d0 : DataW H} {p0 : List MemPlace}
    (o0 : Value.okWide Try.prog W .any base 22 v0) (h0 : DataW.Trod enc Try.prog W 0 (fun _ => true) true 22 v0 d0 p0) (a1 : Int) (w1 : (Lit.int .i64 a1).wf = true) {d1 : DataW H}
    (hz : (DataW.weightsEach Try.prog [22, 3] [d0, d1]).all (· ≤ reachBytes) = true) :
    Calls Try.prog 4 #[v0, .int .i64 a1] W (Law.Yes W) := by
  obtain ⟨A, ca, ids, rfl, hl, hx, hc, _, hwf⟩ := open_i64sZ Try.underlying22 Try.underlying3 (by kernel_rfl) (by kernel_rfl) o0 h0 hz (j := 0) rfl rfl
  by_cases h : tErr ids a1 = 0
  · obtain ⟨p, rfl, _⟩ := tErr_zero h
    exact good A ids _ ca p W rfl hx hwf h
  · exact bad A ids _ ca a1 W _ rfl (by unfold maxLen; omega) hx hwf rfl h
theorem own : ownKnob Try.prog.godebug = none := by kernel_rfl
theorem laid : laidOutB Try.prog = true := by kernel_rfl
theorem pars : ∀ t ∈ Try.f4.params.toList, Try.prog.readableRec t = true ∧ t < Try.prog.types.size := by
  have h : Try.f4.params.toList.all (fun t => Try.prog.readableRec t && decide (t < Try.prog.types.size)) = true := by kernel_rfl
  intro t ht; have := List.all_eq_true.1 h t ht; simpa using this
set_option maxRecDepth 100000 in
theorem calls (H : Type) (enc : TypeId × Value → H) (W : World) (base : Nat) (args : Array Value) (ds : List (DataW H)) (before : List MemPlace)
    (hval : ∀ (j : Nat) t v, Try.f4.params[j]? = some t → args[j]? = some v → Value.okWide Try.prog W .any base t v)
    (hA : DataW.TrodAll enc Try.prog W 0 (fun _ => true) true Try.f4.params.toList args.toList ds before) (hz : (DataW.weightsEach Try.prog Try.f4.params.toList ds).all (· ≤ reachBytes) = true) :
    Calls Try.prog 4 args W (Law.Yes W) := by
  rw [Try.params4] at hA hval hz
  obtain ⟨v0, vs0, d0, ds0, p0, q0, hargs, rfl, rfl, h0, r0⟩ := trodAll_cons hA
  obtain ⟨v1, vs1, d1, ds1, p1, q1, rfl, rfl, rfl, h1, r1⟩ := trodAll_cons r0
  obtain ⟨rfl, rfl, rfl⟩ := trodAll_nil r1
  obtain rfl : args = #[v0, v1] := by cases args; simp_all
  obtain ⟨a1, rfl, rfl, rfl, w1⟩ := open_int Try.underlying3 (hval 1 3 v1 rfl rfl) h1
  exact walk (W := W) (hval 0 22 v0 rfl rfl) h0 a1 w1 hz
theorem fnOf (H : Type) : ∀ ds : List (DataW H), ds.length = Try.f4.params.toList.length → Rows.tableEvenSpec.fn H ds = { results := [.lit (.bool true)], args := ds } := by
  intro ds h
  have h : ds.length = 2 := h
  obtain _ | ⟨x0, ds⟩ := ds
  · simp at h
  obtain _ | ⟨x1, ds⟩ := ds
  · simp at h
  obtain rfl : ds = [] := List.eq_nil_of_length_eq_zero (by simpa using h)
  rfl
set_option maxRecDepth 100000 in
theorem lifted (os : Os) (started : os.Started) (H : Type) (enc : TypeId × Value → H) :
    ReturnsInHanded {} Try.checked os 4 .any (Rows.tableEvenSpec.pre6 enc Try.prog Try.f4 Rows.tableEvenRow.domain false) (Rows.tableEvenSpec.post enc Try.prog Try.f4 false true false false) := by
  refine returnsInHanded_of_change_sized (C := Try.checked) own started (by kernel_rfl) Try.func4
    (ChangeSpec.witness6 (enc := enc) (C := Try.checked) false ⟨#[], #[.slice none 0 0, .int .i64 0], []⟩ 8 (by kernel_rfl) (by kernel_rfl) (by kernel_rfl) (by kernel_rfl)) ?_
  intro W base args ds gs before hval hW _ hz _
  obtain ⟨p, q, hA, hV, rfl, hfz, hnd⟩ := id hW
  obtain ⟨rfl, rfl⟩ := trodVars_none hV
  simp only [List.append_nil] at hz
  have hz2 : (DataW.weightsEach Try.prog Try.f4.params.toList ds).all (· ≤ reachBytes) = true := hz
  exact Law.ending (C := Try.checked) (s := Rows.tableEvenSpec) laid pars rfl Try.underlying4 rfl (fnOf H) hW (calls H enc W base args ds p hval hA hz2)
theorem over : Rows.tableEvenRow.holds Try.pinned (OpenSpec.ofChange Rows.tableEvenSpec) :=
  OpenClaim.holds_of_wide 4 Try.f4 rfl rfl rfl rfl rfl rfl rfl ⟨rfl, rfl, rfl, rfl, rfl⟩ rfl rfl rfl rfl rfl (by kernel_rfl) Try.func4 (by kernel_rfl)
    (of_decide_eq_true (by kernel_rfl)) (by unfold Func.isWrapper; first | (rw [if_pos (by decide +kernel)]; kernel_rfl) | (rw [if_neg (by decide +kernel)]; exact ⟨rfl, rfl⟩))
    (fun os started H enc _ => lifted os started H enc)
theorem proved : Rows.TableEvenSaid := over
end Go.Proofs.Ytahhgeecikljdaa.tableEven
