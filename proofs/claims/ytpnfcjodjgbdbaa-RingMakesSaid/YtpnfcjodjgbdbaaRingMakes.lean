/-
  RingMakes: for all nodes, every number of tokens each, every ring and every node, the law RingMakes answers true (Make, Right and Without return what the document says), and its arguments read afterwards as before. No condition.
-/
import Derived.Test.YtpnfcjodjgbdbaaRgEq
import Derived.Test.YtpnfcjodjgbdbaaRgGMake
namespace Go.Proofs.Ytpnfcjodjgbdbaa.ringMakes
open Go.ChangeShapes Go.WideShapes Go.ChangeAt Go.RowKit
open Mem Ring
set_option linter.unusedVariables false
set_option linter.unusedSimpArgs false

theorem errs {l : List Tk} {k : Int} {n : Nat} {W : World} {e : Ending} {W' : World} (hn : l.length = n) (h : RingErr l k W e W') : ∃ A c, e = .returned (.tuple #[.slice A n c, .int .i64 k]) ∧ TRds W' A l ∧ Below W.heap.size W W' := by
  subst hn; exact h
theorem ok_out {l : List Tk} {n : Nat} {W : World} {e : Ending} {W' : World} (hn : l.length = n) (h : TksOut l W e W') : ∃ A c, e = .returned (.tuple #[.slice A n c, .int .i64 0]) ∧ TTab W' W.heap.size (.slice A n c) l ∧ Below W.heap.size W W' := by
  subst hn; exact h
set_option maxRecDepth 100000 in
set_option maxHeartbeats 8000000 in
theorem bad (A1 : Option Addr) (n1 ca1 : Nat) (each : Int) (A2 : Option Addr) (n2 ca2 : Nat) (id : Int) (W : World) (ls : List Tk) (m : Nat) (hm : ls.length = m) (hmb : m ≤ 400) (k : Int)
    (h1 : ∀ V, Below W.heap.size W V → Calls Try.prog 9 #[.slice A1 n1 ca1, .int .i64 each] V (RingErr ls k V))
    (h2 : ∀ V, Below W.heap.size W V → Calls Try.prog 10 #[.slice A1 n1 ca1, .int .i64 each] V (RingErr ls k V))
    (h3 : ∀ V, Below W.heap.size W V → Calls Try.prog 11 #[.slice A2 n2 ca2, .int .i64 id] V (Gave (.tuple #[.slice none 0 0, .int .i64 1]) V))
    (h4 : ∀ V, Below W.heap.size W V → Calls Try.prog 13 #[.slice A2 n2 ca2] V (Gave (.bool false) V))
    (h5 : ∀ V, Below W.heap.size W V → Calls Try.prog 14 #[.slice A2 n2 ca2] V (Gave (.bool false) V)) :
    Calls Try.prog 3 #[.slice A1 n1 ca1, .int .i64 each, .slice A2 n2 ca2, .int .i64 id] W (Law.Yes W) := by
  have H1 := Lib.hid h1
  have H2 := Lib.hid h2
  have H3 := Lib.hid h3
  have H4 := Lib.hid h4
  have H5 := Lib.hid h5
  have HM := Lib.hid hm
  have kk : (k != k) = false := by simp
  clear h1 h2 h3 h4 h5 hm
  go_enter Try.func3, Try.ntmps3
  go_wp2_with fail
  refine (H1.out _ (Below.refl _ _)).mono ?_
  intro e w1 h
  obtain ⟨A, c, rfl, hT, hb⟩ := errs HM.out h
  have T1 := Lib.hid hT
  have B1 := Lib.hid hb
  clear h hb hT
  go_wp2_with fail
  refine (H2.out _ B1.out).mono ?_
  intro e w2 h
  obtain ⟨A', c', rfl, hT, hb⟩ := errs HM.out h
  have T2 := Lib.hid hT
  have T2' := Lib.hid (T1.out.below hb)
  have B2 := Lib.hid (B1.out.trans (hb.mono B1.out.size))
  clear h hb hT T1 B1
  go_wp2_with fail
  refine (H3.out _ B2.out).mono ?_
  rintro e w3 ⟨rfl, hb⟩
  have T3 := Lib.hid (T2.out.below hb)
  have T3' := Lib.hid (T2'.out.below hb)
  have B3 := Lib.hid (B2.out.trans (hb.mono B2.out.size))
  clear hb T2 T2' B2
  have EQ := Lib.hid (equalTk_c A A' ls ls m m c c' w3 HM.out HM.out (by omega) T3'.out T3.out)
  rw [eqTk_self] at EQ
  go_wp2_with (first | (go_at_call 12; refine EQ.out.mono ?_; rintro e w4 ⟨rfl, hb⟩; have B4 := Lib.hid (B3.out.trans (hb.mono B3.out.size)); clear hb) | (go_at_call 13; refine (H4.out _ B4.out).mono ?_; rintro e w5 ⟨rfl, hb⟩; have B5 := Lib.hid (B4.out.trans (hb.mono B4.out.size)); clear hb B4))
  refine (H5.out _ B5.out).mono ?_
  rintro e w6 ⟨rfl, hb⟩
  have B6 := Lib.hid (B5.out.trans (hb.mono B5.out.size))
  clear hb B5
  go_wp2_with fail
  refine (H5.out _ B6.out).mono ?_
  rintro e w7 ⟨rfl, hb⟩
  have B7 := Lib.hid (B6.out.trans (hb.mono B6.out.size))
  clear hb B6
  go_wp2
  go_ret
  exact ⟨rfl, B7.out⟩
set_option maxRecDepth 100000 in
set_option maxHeartbeats 8000000 in
theorem good (A1 : Option Addr) (n1 ca1 : Nat) (each : Int) (A2 : Option Addr) (ts : List Tk) (n ca2 : Nat) (id : Int) (W : World) (ls : List Tk) (m : Nat) (hm : ls.length = m) (hmb : m ≤ 400) (k : Int)
    (h1 : ∀ V, Below W.heap.size W V → Calls Try.prog 9 #[.slice A1 n1 ca1, .int .i64 each] V (RingErr ls k V))
    (h2 : ∀ V, Below W.heap.size W V → Calls Try.prog 10 #[.slice A1 n1 ca1, .int .i64 each] V (RingErr ls k V))
    (h3 : ∀ V, Below W.heap.size W V → Calls Try.prog 11 #[.slice A2 n ca2, .int .i64 id] V (TksOut (rest id ts) V))
    (h4 : ∀ V, Below W.heap.size W V → Calls Try.prog 13 #[.slice A2 n ca2] V (Gave (.bool true) V))
    (h5 : ∀ V, Below W.heap.size W V → Calls Try.prog 14 #[.slice A2 n ca2] V (Gave (.bool true) V))
    (hn : ts.length = n) (h400 : n ≤ 400) (hx : TRds W A2 ts) :
    Calls Try.prog 3 #[.slice A1 n1 ca1, .int .i64 each, .slice A2 n ca2, .int .i64 id] W (Law.Yes W) := by
  have H1 := Lib.hid h1
  have H2 := Lib.hid h2
  have H4 := Lib.hid h4
  have H5 := Lib.hid h5
  have HM := Lib.hid hm
  have HX := Lib.hid hx
  have HN := Lib.hid hn
  have H3 := Lib.hid h3
  have RL := Lib.hid (show (rest id ts).length ≤ 400 by have h1 := List.length_filter_le (fun t : Tk => t.2 != id) ts; show (ts.filter (fun t : Tk => t.2 != id)).length ≤ 400; omega)
  generalize hr : (rest id ts).length = r at *
  have HR := Lib.hid hr
  have kk : (k != k) = false := by simp
  clear h1 h2 h3 h4 h5 hm hx hn hr
  go_enter Try.func3, Try.ntmps3
  go_wp2_with fail
  refine (H1.out _ (Below.refl _ _)).mono ?_
  intro e w1 h
  obtain ⟨A, c, rfl, hT, hb⟩ := errs HM.out h
  have T1 := Lib.hid hT
  have B1 := Lib.hid hb
  clear h hb hT
  go_wp2_with fail
  refine (H2.out _ B1.out).mono ?_
  intro e w2 h
  obtain ⟨A', c', rfl, hT, hb⟩ := errs HM.out h
  have T2 := Lib.hid hT
  have T2' := Lib.hid (T1.out.below hb)
  have B2 := Lib.hid (B1.out.trans (hb.mono B1.out.size))
  clear h hb hT T1 B1
  go_wp2_with fail
  refine (H3.out _ B2.out).mono ?_
  intro e w3 h
  obtain ⟨A5, c5, rfl, hT, hb⟩ := ok_out HR.out h
  have W3 := Lib.hid hT.rds
  have T3 := Lib.hid (T2.out.below hb)
  have T3' := Lib.hid (T2'.out.below hb)
  have B3 := Lib.hid (B2.out.trans (hb.mono B2.out.size))
  clear hb T2 T2' B2 hT h
  have EQ := Lib.hid (equalTk_c A A' ls ls m m c c' w3 HM.out HM.out (by omega) T3'.out T3.out)
  rw [eqTk_self] at EQ
  go_wp2_with (first | (go_at_call 12; refine EQ.out.mono ?_; rintro e w4 ⟨rfl, hb⟩; have W4 := Lib.hid (W3.out.below hb); have B4 := Lib.hid (B3.out.trans (hb.mono B3.out.size)); clear hb) | (go_at_call 13; refine (H4.out _ B4.out).mono ?_; rintro e w5 ⟨rfl, hb⟩; have W5 := Lib.hid (W4.out.below hb); have B5 := Lib.hid (B4.out.trans (hb.mono B4.out.size)); clear hb B4 W4))
  refine (H5.out _ B5.out).mono ?_
  rintro e w6 ⟨rfl, hb⟩
  have B6 := Lib.hid (B5.out.trans (hb.mono B5.out.size))
  have W6 := Lib.hid (W5.out.below hb)
  clear hb B5 W5
  go_wp2_with fail
  refine (H5.out _ B6.out).mono ?_
  rintro e w7 ⟨rfl, hb⟩
  have B7 := Lib.hid (B6.out.trans (hb.mono B6.out.size))
  have W7 := Lib.hid (W6.out.below hb)
  clear hb B6 W6 EQ H1 H2 H3 H4 H5 T3 T3' W3 B3
  go_wp2
  have X7 := Lib.hid (HX.out.below B7.out)
  go_loopw [15, 64] (fun s6 i wr => ∃ (k m : Nat) (A2 : Option Addr) (c2 : Nat), k ≤ n ∧ m ≤ k ∧ i = .int .i64 k ∧ s6 = .slice A2 m c2 ∧ RestAt w7 id ts k m A2 c2 wr) (fun _ i _ => n - (intOf i).toNat)
  case atStart => exact ⟨0, 0, none, 0, by omega, by omega, rfl, rfl, rfl, TTab.nil _ _, Below.refl _ _⟩
  case round =>
    obtain ⟨k, m, A9, c9, hk, hmk, rfl, rfl, hm, hT, hB⟩ := hrel
    have HM2 := Lib.hid hm
    have HT := Lib.hid hT
    have HB := Lib.hid hB
    by_cases hlt : k < n
    · have k1 : k < ts.length := by rw [HN.out]; exact hlt
      obtain ⟨b, o, rfl, _, x0, x1⟩ := (X7.out.below hB).tk k1
      have EX := Lib.hid (show ts[k]? = some ts[k] from List.getElem?_eq_getElem k1)
      generalize hu : ts[k] = u at *
      obtain ⟨u0, u1⟩ := u
      have i1 : (k : Int) < (n : Int) := by omega
      obtain ⟨d0, d1⟩ := boxT wr (.int .u64 u0.toNat) (.int .i64 u1)
      have HA := Lib.hid (show TTab (wr.alloc (.cells #[.int .u64 u0.toNat, .int .i64 u1] 31)) w7.heap.size (.slice A9 m c9) (rest id (ts.take k)) from hT.alloc _)
      have HBA := Lib.hid (show Below w7.heap.size w7 (wr.alloc (.cells #[.int .u64 u0.toNat, .int .i64 u1] 31)) from hB.alloc hB.size _)
      clear hu hm hT hB k1
      by_cases e : u1 = id
      · have RN := Lib.hid (rest_no EX.out e)
        have n1 : (u1 != id) = false := by simp [e]
        have n2 : (u1 == id) = true := by simp [e]
        clear e
        go_wp2
        go_roundw
        case rel => exact ⟨k + 1, m, A9, c9, by omega, by omega, by go_num, rfl, by rw [RN.out]; exact HM2.out, by rw [RN.out]; exact HA.out, HBA.out⟩
        case measure => simp [intOf]; omega
      · have RN := Lib.hid (rest_yes EX.out e)
        have n1 : (u1 != id) = true := by simp [e]
        have n2 : (u1 == id) = false := by simp [e]
        clear e
        go_wp2_with (refine wpList_append_tk rfl _ _ (by rfl) (u0, u1) rfl rfl rfl rfl (by simp) HA.out HM2.out (by omega) HBA.out.size HBA.out (Nat.le_refl _) ?_; intro A3 c3 w9 Z3 G3 B3)
        go_roundw
        case rel => exact ⟨k + 1, m + 1, A3, c3, by omega, by omega, by go_num, rfl, by rw [RN.out, List.length_append, HM2.out]; rfl, by rw [RN.out]; exact Z3.out, B3.out⟩
        case measure => simp [intOf]; omega
    · obtain rfl : k = n := by omega
      have TK := Lib.hid (show ts.take k = ts from List.take_of_length_le (by rw [HN.out]; omega))
      have EQ := Lib.hid (show Calls Try.prog 12 #[.slice A5 r c5, .slice A9 m c9] wr (Gave (.bool true) wr) from by
        have h1 := HM2.out
        have h2 := HT.out
        rw [TK.out] at h1 h2
        have h3 := equalTk_c A5 A9 (rest id ts) (rest id ts) r m c5 c9 wr HR.out h1 (by have := RL.out; omega) (W7.out.below HB.out) h2.rds
        rwa [eqTk_self] at h3)
      have HBW := Lib.hid (B7.out.trans (HB.out.mono B7.out.size))
      clear hm hT hB
      go_wp2_with (go_at_call 12; refine EQ.out.mono ?_; rintro e w9 ⟨rfl, hb⟩; have B9 := Lib.hid (HBW.out.trans (hb.mono HBW.out.size)); clear hb)
      go_ret
      exact ⟨rfl, B9.out⟩
theorem gl_len (ids : List Int) (each : Int) : (gl ids each).length ≤ 400 := by
  unfold gl
  by_cases h : makeE ids each = 0
  · rw [if_pos h]
    obtain ⟨g1, _, _⟩ := makeE_zero.1 h
    obtain ⟨_, h2, _⟩ := size_no g1
    obtain ⟨k, rfl⟩ : ∃ k : Nat, each = k := ⟨each.toNat, by omega⟩
    exact (made_right h).1
  · rw [if_neg h]; simp
theorem words (A1 : Option Addr) (ids : List Int) (n1 ca1 : Nat) (each : Int) (A2 : Option Addr) (ts : List Tk) (n ca2 : Nat) (id : Int) (W : World)
    (hn1 : ids.length = n1) (hca1 : n1 ≤ ca1) (hb1 : n1 ≤ maxLen) (hx1 : Reads W A1 (ids.map (Value.int .i64))) (hwf : ∀ x ∈ ids, (Lit.int .i64 x).wf = true) (hn : ts.length = n) (hbig : n ≤ maxLen) (hx : TRds W A2 ts) :
    Calls Try.prog 3 #[.slice A1 n1 ca1, .int .i64 each, .slice A2 n ca2, .int .i64 id] W (Law.Yes W) := by
  have hm := fun V (hb : Below W.heap.size W V) => make_c A1 ids n1 ca1 each V hn1 hca1 hb1 (hx1.below hb)
  have hg := fun V (hb : Below W.heap.size W V) => gmake_c A1 ids n1 ca1 each V hn1 hb1 (hx1.below hb) hwf
  have hr : ∀ V, Below W.heap.size W V → Calls Try.prog 14 #[.slice A2 n ca2] V (Gave (.bool (decide (Right ts))) V) := fun V hb => by
    have := gright_c A2 ts n ca2 V hn hbig (hx.below hb)
    rwa [rgB_right hn] at this
  by_cases h : Right ts
  · rw [decide_eq_true h] at hr
    exact good A1 n1 ca1 each A2 ts n ca2 id W (gl ids each) _ rfl (gl_len ids each) (makeE ids each) hm hg (fun V hb => without_ok A2 ts n ca2 id V hn (hx.below hb) h) (fun V hb => right_yes A2 ts n ca2 V hn (hx.below hb) h) hr hn (by rw [← hn]; exact h.1) hx
  · rw [decide_eq_false h] at hr
    exact bad A1 n1 ca1 each A2 n ca2 id W (gl ids each) _ rfl (gl_len ids each) (makeE ids each) hm hg (fun V hb => without_bad A2 ts n ca2 id V hn hbig (hx.below hb) h) (fun V hb => right_no A2 ts n ca2 V hn hbig (hx.below hb) h) hr
set_option maxRecDepth 100000 in
theorem walk {H : Type} {enc : TypeId × Value → H} {base : Nat} {W : World} {v0 : Value} {d0 : DataW H} {p0 : List MemPlace}
    (o0 : Value.okWide Try.prog W .any base 22 v0) (h0 : DataW.Trod enc Try.prog W 0 (fun _ => true) true 22 v0 d0 p0) (a1 : Int) (w1 : (Lit.int .i64 a1).wf = true)
    {v2 : Value} {d2 : DataW H} {p2 : List MemPlace} (o2 : Value.okWide Try.prog W .any base 23 v2) (h2 : DataW.Trod enc Try.prog W 0 (fun _ => true) true 23 v2 d2 p2) (a3 : Int) (w3 : (Lit.int .i64 a3).wf = true) :
    Calls Try.prog 3 #[v0, .int .i64 a1, v2, .int .i64 a3] W (Law.Yes W) := by
  obtain ⟨A1, ca1, ids, rfl, hl1, hx1, hc1, _, hw1⟩ := open_i64s Try.underlying22 Try.underlying3 (by kernel_rfl) o0 h0
  obtain ⟨A, ca, ts, rfl, hl, _, _, hx, _⟩ := open_tks o2 h2
  exact words A1 ids _ ca1 a1 A ts _ ca a3 W rfl hc1 hl1 hx1 hw1 rfl hl hx
theorem own : ownKnob Try.prog.godebug = none := by kernel_rfl
theorem laid : laidOutB Try.prog = true := by kernel_rfl
theorem pars : ∀ t ∈ Try.f3.params.toList, Try.prog.readableRec t = true ∧ t < Try.prog.types.size := by
  have h : Try.f3.params.toList.all (fun t => Try.prog.readableRec t && decide (t < Try.prog.types.size)) = true := by kernel_rfl
  intro t ht; have := List.all_eq_true.1 h t ht; simpa using this
set_option maxRecDepth 100000 in
theorem calls (H : Type) (enc : TypeId × Value → H) (W : World) (base : Nat) (args : Array Value) (ds : List (DataW H)) (before : List MemPlace)
    (hval : ∀ (j : Nat) t v, Try.f3.params[j]? = some t → args[j]? = some v → Value.okWide Try.prog W .any base t v)
    (hA : DataW.TrodAll enc Try.prog W 0 (fun _ => true) true Try.f3.params.toList args.toList ds before) :
    Calls Try.prog 3 args W (Law.Yes W) := by
  rw [Try.params3] at hA hval
  obtain ⟨v0, vs0, d0, ds0, p0, q0, hargs, rfl, rfl, h0, r0⟩ := trodAll_cons hA
  obtain ⟨v1, vs1, d1, ds1, p1, q1, rfl, rfl, rfl, h1, r1⟩ := trodAll_cons r0
  obtain ⟨v2, vs2, d2, ds2, p2, q2, rfl, rfl, rfl, h2, r2⟩ := trodAll_cons r1
  obtain ⟨v3, vs3, d3, ds3, p3, q3, rfl, rfl, rfl, h3, r3⟩ := trodAll_cons r2
  obtain ⟨rfl, rfl, rfl⟩ := trodAll_nil r3
  obtain rfl : args = #[v0, v1, v2, v3] := by cases args; simp_all
  obtain ⟨a1, rfl, rfl, rfl, w1⟩ := open_int Try.underlying3 (hval 1 3 v1 rfl rfl) h1
  obtain ⟨a3, rfl, rfl, rfl, w3⟩ := open_int Try.underlying3 (hval 3 3 v3 rfl rfl) h3
  exact walk (W := W) (hval 0 22 v0 rfl rfl) h0 a1 w1 (hval 2 23 v2 rfl rfl) h2 a3 w3
theorem fnOf (H : Type) : ∀ ds : List (DataW H), ds.length = Try.f3.params.toList.length → Rows.ringMakesSpec.fn H ds = { results := [.lit (.bool true)], args := ds } := by
  intro ds h
  have h : ds.length = 4 := h
  obtain _ | ⟨x0, ds⟩ := ds
  · simp at h
  obtain _ | ⟨x1, ds⟩ := ds
  · simp at h
  obtain _ | ⟨x2, ds⟩ := ds
  · simp at h
  obtain _ | ⟨x3, ds⟩ := ds
  · simp at h
  obtain rfl : ds = [] := List.eq_nil_of_length_eq_zero (by simpa using h)
  rfl
set_option maxRecDepth 100000 in
theorem lifted (os : Os) (started : os.Started) (H : Type) (enc : TypeId × Value → H) :
    ReturnsInHanded {} Try.checked os 3 .any (Rows.ringMakesSpec.pre6 enc Try.prog Try.f3 Rows.ringMakesRow.domain false) (Rows.ringMakesSpec.post enc Try.prog Try.f3 false true false false) := by
  refine returnsInHanded_of_change (C := Try.checked) own started (by kernel_rfl) Try.func3
    (ChangeSpec.witness6 (enc := enc) (C := Try.checked) false ⟨#[], #[.slice none 0 0, .int .i64 0, .slice none 0 0, .int .i64 0], []⟩ 8 (by kernel_rfl) (by kernel_rfl) (by kernel_rfl) (by kernel_rfl)) ?_
  intro W base args ds gs before hval hW _ _
  obtain ⟨p, q, hA, hV, rfl, hfz, hnd⟩ := id hW
  obtain ⟨rfl, rfl⟩ := trodVars_none hV
  exact Law.ending (C := Try.checked) (s := Rows.ringMakesSpec) laid pars rfl Try.underlying4 rfl (fnOf H) hW (calls H enc W base args ds p hval hA)
theorem over : Rows.ringMakesRow.holds Try.pinned (OpenSpec.ofChange Rows.ringMakesSpec) :=
  OpenClaim.holds_of_wide 3 Try.f3 rfl rfl rfl rfl rfl rfl rfl ⟨rfl, rfl, rfl, rfl, rfl⟩ rfl rfl rfl rfl rfl (by kernel_rfl) Try.func3 (by kernel_rfl)
    (of_decide_eq_true (by kernel_rfl)) (by unfold Func.isWrapper; first | (rw [if_pos (by decide +kernel)]; kernel_rfl) | (rw [if_neg (by decide +kernel)]; exact ⟨rfl, rfl⟩))
    (fun os started H enc _ => lifted os started H enc)
theorem proved : Rows.RingMakesSaid := over
end Go.Proofs.Ytpnfcjodjgbdbaa.ringMakes
