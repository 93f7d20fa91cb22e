/-
  TableFirst: for all ids and every size, the law TableFirst answers true (the first node has the place that it likes most; alone it has all), and its arguments read afterwards as before. No condition.
-/
import Derived.Test.YtahhgeecikljdaaTbCount
import Derived.Test.YtahhgeecikljdaaInts
import Derived.Test.YtahhgeecikljdaaRegHead
import Derived.Test.YtahhgeecikljdaaLaw
import Derived.BigQuiet
import Derived.StillTailTactics
namespace Go.Proofs.Ytahhgeecikljdaa.tableFirst
open Go.ChangeShapes Go.WideShapes Go.ChangeAt Go.RowKit
open Mem Tb
set_option linter.unusedVariables false
set_option linter.unusedSimpArgs false

set_option maxHeartbeats 4000000 in
theorem bad (A : Option Addr) (ids : List Int) (n ca : Nat) (size : Int) (W : World) (k : Int) (hn : ids.length = n) (hb : n ≤ maxLen) (hx : Reads W A (ids.map (Value.int .i64))) (hwf : ∀ x ∈ ids, (Lit.int .i64 x).wf = true)
    (hk : tErr ids size = k) (h0 : k ≠ 0) :
    Calls Try.prog 6 #[.slice A n ca, .int .i64 size] W (Law.Yes W) := by
  have AL := Lib.hid (alive_c W)
  have MK := Lib.hid (fun V (hB : Below W.heap.size W V) => make_bad A ids n ca size k V hn hb (hx.below hB) hwf hk h0)
  have hv := tErr_vals ids size
  rw [hk] at hv
  clear hn hb hx hwf hk
  rcases hv with rfl | rfl | rfl | rfl | rfl
  · exact absurd rfl h0
  all_goals
    clear h0
    go_enter Try.func6, Try.ntmps6
    go_wp2_with fail
    refine AL.out.mono ?_
    rintro e w1 ⟨rfl, hb1⟩
    have B1 := Lib.hid hb1
    clear hb1
    go_wp2_with fail
    refine (MK.out _ B1.out).mono ?_
    rintro e w2 ⟨rfl, hb2⟩
    have B2 := Lib.hid (B1.out.trans (hb2.mono B1.out.size))
    clear hb2 B1 MK AL
    go_wp2
    go_ret
    exact ⟨rfl, B2.out⟩
theorem first_sel {L : Nat → List Nat} {m p s : Nat} (h : Fulls L m p) (hp : 0 < p) (hs : (L 0)[0]? = some s) : sel L m 0 = s := by
  obtain ⟨pre, rest, h1, h2, _⟩ := sel_split h hp
  have e : pre = [] := List.eq_nil_iff_forall_not_mem.2 (fun y hy => by have := h2 y hy; simp [ch] at this)
  subst e
  rw [Nat.zero_mod] at h1
  rw [h1] at hs
  simpa using hs
theorem first_at {ids : List Int} {p : Nat} {x : Int} (h : Prm p) (h1 : 1 ≤ ids.length) (hx : ids[0]? = some x) : (lik x p)[0]? = some (st x p) ∧ st x p < p ∧ (table ids p)[st x p]? = some x := by
  have hp := h.1
  have hst : st x p < p := Nat.mod_lt _ (by omega)
  have hg : ids.getD 0 0 = x := by rw [List.getD_eq_getElem?_getD, hx]; rfl
  have h0 : (lik x p)[0]? = some (st x p) := by
    have := pref_at (a := st x p) (s := sp x p) (p := p) (k := 0) (by omega)
    rwa [pos_zero hst] at this
  refine ⟨h0, hst, ?_⟩
  have hs : sel (liks ids p) ids.length 0 = st x p := first_sel (liks_fulls h h1) (by omega) (by unfold liks; rw [hg]; exact h0)
  have ht := tb_at (ids := ids) (liks_fulls h h1) (k := 0) (n := p) (by omega) (Nat.le_refl _)
  rw [hs, Nat.zero_mod, hg] at ht
  exact ht
set_option maxRecDepth 100000 in
set_option maxHeartbeats 8000000 in
theorem good (A : Option Addr) (ids : List Int) (n ca p : Nat) (W : World) (hn : ids.length = n) (hca : n ≤ ca) (hx : Reads W A (ids.map (Value.int .i64))) (hwf : ∀ x ∈ ids, (Lit.int .i64 x).wf = true) (hk : tErr ids p = 0) :
    Calls Try.prog 6 #[.slice A n ca, .int .i64 p] W (Law.Yes W) := by
  obtain ⟨q, hq, hp1, hp2, hn1, hn2, hnp, hid, hnd, _⟩ := tErr_zero hk
  obtain rfl : p = q := by omega
  have hpp := hp1.1
  have k1 : 0 < ids.length := by omega
  obtain ⟨b, o, rfl, hbl, x0⟩ := reads_z hx k1
  have ex : ids[0]? = some ids[0] := List.getElem?_eq_getElem k1
  have hm : ids[0] ∈ ids := List.getElem_mem k1
  have ht1 : ids.take 1 = [ids[0]] := by rw [List.take_succ_eq_append_getElem k1]; rfl
  generalize hu : ids[0] = x at *
  have one0 : tErr [x] p = 0 := tErr_ok hp1 hp2 (by simp) (by simp) (by simp; omega) (fun y hy => by simp at hy; subst hy; exact hid _ hm) (by simp)
  obtain ⟨f1, f2, f3⟩ := first_at hp1 hn1 ex
  obtain ⟨s, hs⟩ : ∃ s, s = st x p := ⟨_, rfl⟩
  rw [← hs] at f1 f2 f3
  clear hs
  have AL := Lib.hid (alive_c W)
  have MK := Lib.hid (fun V (hB : Below W.heap.size W V) => make_ok (some ⟨b, o, none⟩) ids n ca p V hn (hx.below hB) hwf hk)
  have hx1 : Reads W (some ⟨b, o, none⟩) ([x].map (Value.int .i64)) := by
    have := hx.take 1
    rwa [← List.map_take, ht1] at this
  have MO := Lib.hid (fun V (hB : Below W.heap.size W V) => make_ok (some ⟨b, o, none⟩) [x] 1 ca p V rfl (hx1.below hB) (fun y hy => by simp at hy; subst hy; exact hwf _ hm) one0)
  have LK := Lib.hid (fun V => likes_ok x p (hwf _ hm) one0 V)
  have AL0 : ∃ y, (table [x] p)[0]? = some y := ⟨_, List.getElem?_eq_getElem (by rw [table_len]; omega)⟩
  obtain ⟨y, hy⟩ := AL0
  obtain rfl : y = x := by
    have := table_mem (ids := [x]) hp1 (by simp) (List.mem_of_getElem? hy)
    simpa using this
  have NB := Lib.hid (show (Ring.nub (table [y] p)).length = 1 from table_nub hp1 (by simp) (by simp; omega) (by simp))
  have CN := Lib.hid (show ∀ (V : World) (g : Nat), Cells V g 3 zz (table [y] p) → Calls Try.prog 18 #[.slice (some ⟨g, 0, none⟩) p p] V (CountOut (table [y] p) V) from fun V g h =>
    count_c _ (table [y] p) p p V (table_len _ _) hp2 h.reads (fun z hz => by
      have := table_mem (ids := [y]) hp1 (by simp) hz
      simp at this; subst this; exact hwf _ hm))
  have TX := Lib.hid f3
  have LX := Lib.hid f1
  have AX := Lib.hid hy
  generalize table [y] p = t1 at *
  generalize table ids p = t at *
  generalize lik y p = l at *
  have s1 : ¬ (s : Int) < 0 := by omega
  have s2 : ¬ (p : Int) ≤ (s : Int) := by omega
  have s3 : decide ((s : Int) < 0) = false := decide_eq_false s1
  have s4 : decide ((p : Int) ≤ (s : Int)) = false := decide_eq_false s2
  have s5 : (s : Int) < (p : Int) := by omega
  have n0 : (0 : Int) < (n : Int) := by omega
  have n1 : (1 : Int) ≤ (n : Int) := by omega
  have n2 : (1 : Int) ≤ (ca : Int) := by omega
  have n3 : 0 < n := by omega
  have n4 : 1 ≤ n := by omega
  have n5 : 1 ≤ ca := by omega
  have p0 : (0 : Int) < (p : Int) := by omega
  have p3 : 0 < p := by omega
  have s6 : decide (p ≤ s) = false := decide_eq_false (by omega)
  have s7 : ¬ p ≤ s := by omega
  have s8 : s < p := by omega
  have y1 : (y != y) = false := by simp
  have y2 : (y == y) = true := by simp
  have p1 : ((p : Int) != (p : Int)) = false := by simp
  have p2 : ((p : Int) == (p : Int)) = true := by simp
  clear hk hq hp1 hid hnd hx hwf hn f1 f2 f3 hx1 hy ex hm ht1 hu k1 one0
  go_enter Try.func6, Try.ntmps6
  go_wp2_with fail
  refine AL.out.mono ?_
  rintro e w1 ⟨rfl, hb1⟩
  have B1 := Lib.hid hb1
  clear hb1
  go_wp2_with fail
  refine (MK.out _ B1.out).mono ?_
  rintro e w2 ⟨g, rfl, hg, hc, hb2⟩
  have B2 := Lib.hid (B1.out.trans (hb2.mono B1.out.size))
  have C2 := Lib.hid hc
  have x2 := (B2.out.cell (p := ⟨b, o + 0, none⟩) hbl).trans x0
  have x2' : w2.cell? ⟨b, o, none⟩ = some (.int .i64 y) := x2
  clear hb2 B1 AL MK hc hg
  go_wp2_with fail
  refine (LK.out _).mono ?_
  rintro e w3 ⟨gl, rfl, hgl, hl, hb3⟩
  have B3 := Lib.hid (B2.out.trans (hb3.mono B2.out.size))
  have C3 := Lib.hid (C2.out.later hb3)
  have x3 : w3.cell? ⟨b, o, none⟩ = some (.int .i64 y) := (B3.out.cell (p := ⟨b, o, none⟩) hbl).trans x0
  have l3 : w3.cell? ⟨gl, 0, none⟩ = some (.int .i64 (s : Int)) := hl.at_ LX.out
  have t3 : w3.cell? ⟨g, s, none⟩ = some (.int .i64 y) := C3.out.at_ TX.out
  clear hb3 B2 C2 hl hgl x2 x2' LK
  go_wp2
  go_quiet (fail)
  have B3q := Lib.hid (below_drewN B3.out nq)
  clear B3 C3 l3 t3 x3
  go_wp2_with fail
  refine (MO.out _ B3q.out).mono ?_
  rintro e w4 ⟨g4, rfl, hg4, hc4, hb4⟩
  have B4 := Lib.hid (B3q.out.trans (hb4.mono B3q.out.size))
  have C4 := Lib.hid hc4
  clear hb4 hc4 hg4 MO B3q
  have D4 := Lib.hid (below_drew B4.out)
  have K := Lib.hid (show ∀ V : World, Below w4.drew.heap.size w4.drew V → V.cell? ⟨g4, 0, none⟩ = some (.int .i64 y) ∧ V.cell? ⟨b, o, none⟩ = some (.int .i64 y) from fun V hb =>
    ⟨(Cells.later (W := w4.drew) C4.out hb).at_ AX.out, ((D4.out.trans (hb.mono D4.out.size)).cell (p := ⟨b, o, none⟩) hbl).trans x0⟩)
  have CN4 := Lib.hid (CN.out w4.drew g4 C4.out)
  go_upto_region 10 with fail
  refine Reg.region_head 9 (by kernel_rfl) (by kernel_rfl) ?_
  simp only [List.take_succ_cons, List.take_zero, List.drop_succ_cons, List.drop_zero]
  go_wp2_with fail
  refine CN4.out.mono ?_
  rintro e w5 ⟨bm, rfl, -, hm, hb5⟩
  obtain ⟨q1, q2⟩ := K.out w5 hb5
  have hlen := hm.len 1 NB.out
  have B5 := Lib.hid (D4.out.trans (hb5.mono D4.out.size))
  clear hm hb5
  go_wp2_with fail
  repeat still_step
  refine wpStill_nil ?_
  go_wp2
  go_ret
  exact ⟨rfl, B5.out⟩
set_option maxRecDepth 100000 in
theorem walk {H : Type} {enc : TypeId × Value → H} {base : Nat} {W : World} {v0 : Value} {d0 : DataW H} {p0 : List MemPlace}
    (o0 : Value.okWide Try.prog W .any base 22 v0) (h0 : DataW.Trod enc Try.prog W 0 (fun _ => true) true 22 v0 d0 p0) (a1 : Int) (w1 : (Lit.int .i64 a1).wf = true) {d1 : DataW H}
    (hz : (DataW.weightsEach Try.prog [22, 3] [d0, d1]).all (· ≤ reachBytes) = true) :
    Calls Try.prog 6 #[v0, .int .i64 a1] W (Law.Yes W) := by
  obtain ⟨A, ca, ids, rfl, hl, hx, hc, _, hwf⟩ := open_i64sZ Try.underlying22 Try.underlying3 (by kernel_rfl) (by kernel_rfl) o0 h0 hz (j := 0) rfl rfl
  by_cases h : tErr ids a1 = 0
  · obtain ⟨p, rfl, _⟩ := tErr_zero h
    exact good A ids _ ca p W rfl hc hx hwf h
  · exact bad A ids _ ca a1 W _ rfl (by unfold maxLen; omega) hx hwf rfl h
theorem own : ownKnob Try.prog.godebug = none := by kernel_rfl
theorem laid : laidOutB Try.prog = true := by kernel_rfl
theorem pars : ∀ t ∈ Try.f6.params.toList, Try.prog.readableRec t = true ∧ t < Try.prog.types.size := by
  have h : Try.f6.params.toList.all (fun t => Try.prog.readableRec t && decide (t < Try.prog.types.size)) = true := by kernel_rfl
  intro t ht; have := List.all_eq_true.1 h t ht; simpa using this
set_option maxRecDepth 100000 in
theorem calls (H : Type) (enc : TypeId × Value → H) (W : World) (base : Nat) (args : Array Value) (ds : List (DataW H)) (before : List MemPlace)
    (hval : ∀ (j : Nat) t v, Try.f6.params[j]? = some t → args[j]? = some v → Value.okWide Try.prog W .any base t v)
    (hA : DataW.TrodAll enc Try.prog W 0 (fun _ => true) true Try.f6.params.toList args.toList ds before) (hz : (DataW.weightsEach Try.prog Try.f6.params.toList ds).all (· ≤ reachBytes) = true) :
    Calls Try.prog 6 args W (Law.Yes W) := by
  rw [Try.params6] at hA hval hz
  obtain ⟨v0, vs0, d0, ds0, p0, q0, hargs, rfl, rfl, h0, r0⟩ := trodAll_cons hA
  obtain ⟨v1, vs1, d1, ds1, p1, q1, rfl, rfl, rfl, h1, r1⟩ := trodAll_cons r0
  obtain ⟨rfl, rfl, rfl⟩ := trodAll_nil r1
  obtain rfl : args = #[v0, v1] := by cases args; simp_all
  obtain ⟨a1, rfl, rfl, rfl, w1⟩ := open_int Try.underlying3 (hval 1 3 v1 rfl rfl) h1
  exact walk (W := W) (hval 0 22 v0 rfl rfl) h0 a1 w1 hz
theorem fnOf (H : Type) : ∀ ds : List (DataW H), ds.length = Try.f6.params.toList.length → Rows.tableFirstSpec.fn H ds = { results := [.lit (.bool true)], args := ds } := by
  intro ds h
  have h : ds.length = 2 := h
  obtain _ | ⟨x0, ds⟩ := ds
  · simp at h
  obtain _ | ⟨x1, ds⟩ := ds
  · simp at h
  obtain rfl : ds = [] := List.eq_nil_of_length_eq_zero (by simpa using h)
  rfl
set_option maxRecDepth 100000 in
theorem lifted (os : Os) (started : os.Started) (H : Type) (enc : TypeId × Value → H) :
    ReturnsInHanded {} Try.checked os 6 .any (Rows.tableFirstSpec.pre6 enc Try.prog Try.f6 Rows.tableFirstRow.domain false) (Rows.tableFirstSpec.post enc Try.prog Try.f6 false true false false) := by
  refine returnsInHanded_of_change_sized (C := Try.checked) own started (by kernel_rfl) Try.func6
    (ChangeSpec.witness6 (enc := enc) (C := Try.checked) false ⟨#[], #[.slice none 0 0, .int .i64 0], []⟩ 8 (by kernel_rfl) (by kernel_rfl) (by kernel_rfl) (by kernel_rfl)) ?_
  intro W base args ds gs before hval hW _ hz _
  obtain ⟨p, q, hA, hV, rfl, hfz, hnd⟩ := id hW
  obtain ⟨rfl, rfl⟩ := trodVars_none hV
  simp only [List.append_nil] at hz
  have hz2 : (DataW.weightsEach Try.prog Try.f6.params.toList ds).all (· ≤ reachBytes) = true := hz
  exact Law.ending (C := Try.checked) (s := Rows.tableFirstSpec) laid pars rfl Try.underlying4 rfl (fnOf H) hW (calls H enc W base args ds p hval hA hz2)
theorem over : Rows.tableFirstRow.holds Try.pinned (OpenSpec.ofChange Rows.tableFirstSpec) :=
  OpenClaim.holds_of_wide 6 Try.f6 rfl rfl rfl rfl rfl rfl rfl ⟨rfl, rfl, rfl, rfl, rfl⟩ rfl rfl rfl rfl rfl (by kernel_rfl) Try.func6 (by kernel_rfl)
    (of_decide_eq_true (by kernel_rfl)) (by unfold Func.isWrapper; first | (rw [if_pos (by decide +kernel)]; kernel_rfl) | (rw [if_neg (by decide +kernel)]; exact ⟨rfl, rfl⟩))
    (fun os started H enc _ => lifted os started H enc)
theorem proved : Rows.TableFirstSaid := over
end Go.Proofs.Ytahhgeecikljdaa.tableFirst
