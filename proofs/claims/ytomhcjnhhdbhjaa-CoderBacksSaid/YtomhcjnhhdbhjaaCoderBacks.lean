/-
  CoderBacks: for all integers rows and more and every slice of pieces, the law CoderBacks answers true (Back and Right return what the document says), and its arguments read afterwards as before. No condition.
-/
import Derived.Test.YtomhcjnhhdbhjaaCoderSpec
import Derived.Test.YtomhcjnhhdbhjaaCoderRt
import Derived.Test.YtomhcjnhhdbhjaaLaw
import Derived.Test.YtomhcjnhhdbhjaaInts
import Derived.Test.YtomhcjnhhdbhjaaRowsApp
import Derived.BigQuiet
import Derived.Deep.QuietTactic
namespace Go.Proofs.Ytomhcjnhhdbhjaa.coderBacks
open Go.ChangeShapes Go.WideShapes Go.ChangeAt Go.RowKit
open Gf Mem Poly Cdr
set_option linter.unusedVariables false

theorem scan_none {lim : Int} : ∀ {S : List Int} {ps : List Pc}, scan lim S ps = none → (ps.map (·.1)).Nodup ∧ ∀ p ∈ ps, p.1 ∉ S ∧ 0 ≤ p.1 ∧ p.1 ≤ lim - 1
  | S, [], _ => ⟨List.nodup_nil, fun p h => by simp at h⟩
  | S, p :: ps, h => by
    rw [scan] at h
    split at h
    · cases h
    · rename_i h1
      split at h
      · cases h
      · rename_i h2
        obtain ⟨i1, i2⟩ := scan_none h
        refine ⟨?_, fun q hq => ?_⟩
        · rw [List.map_cons]
          refine List.nodup_cons.2 ⟨fun hm => ?_, i1⟩
          obtain ⟨q, hq, e⟩ := List.mem_map.1 hm
          exact (i2 q hq).1 (by rw [e]; simp)
        · rcases List.mem_cons.1 hq with rfl | hq
          · exact ⟨h2, by omega, by omega⟩
          · exact ⟨fun hm => (i2 q hq).1 (List.mem_cons_of_mem _ hm), (i2 q hq).2⟩
theorem scan_nodup8 {lim : Int} {ps : List Pc} (h : scan lim [] ps = none) (hl : lim ≤ 256) (k : Nat) : (nums8 (ps.take k)).Nodup := by
  obtain ⟨h1, h2⟩ := scan_none h
  have e : nums8 ps = (ps.map (·.1)).map fun x => UInt8.ofNat x.toNat := by unfold nums8; rw [List.map_map]; rfl
  have h3 : (nums8 ps).Nodup := by
    rw [e]
    refine List.pairwise_map.2 (List.Pairwise.imp_of_mem ?_ h1)
    intro x y hx hy hne he
    have h4 := congrArg UInt8.toNat he
    rw [UInt8.toNat_ofNat', UInt8.toNat_ofNat'] at h4
    obtain ⟨p, hp, rfl⟩ := List.mem_map.1 hx
    obtain ⟨q, hq, rfl⟩ := List.mem_map.1 hy
    have := (h2 p hp).2
    have := (h2 q hq).2
    exact hne (by omega)
  rw [← nums8_take]
  exact h3.sublist (List.take_sublist _ _)
theorem back_same {r m : Int} {ps : List Pc} {outs outs' : List (List UInt8)} {err err' : Int} (h : BackIs r m ps outs err) (h' : BackIs r m ps outs' err') : err = err' ∧ outs = outs' :=
  back_unique h h' fun h1 h2 _ => scan_nodup8 h1 (by unfold badRange at h2; omega) _
theorem back_len {r m : Int} {ps : List Pc} {outs : List (List UInt8)} {err : Int} (h : BackIs r m ps outs err) : outs.length ≤ 100 := by
  rcases h with ⟨_, _, rfl⟩ | ⟨_, _, rfl⟩ | ⟨h1, _, ⟨_, _, rfl⟩ | ⟨_, _, _, rfl⟩ | ⟨_, _, _, h2, _⟩⟩
  · simp
  · simp
  · simp
  · simp
  · rw [h2]; unfold badRange at h1; omega
theorem back_err {r m : Int} {ps : List Pc} {outs : List (List UInt8)} {err : Int} (h : BackIs r m ps outs err) : err ≠ 0 ∨ (err = 0 ∧ ¬ badRange r m ∧ scan (r + m) [] ps = none ∧ r ≤ (ps.length : Int) ∧ evenB (datas ps) = true ∧ Backs r.toNat ps outs) := by
  rcases h with ⟨_, h, _⟩ | ⟨_, h, _⟩ | ⟨h1, h2, ⟨_, h, _⟩ | ⟨_, _, h, _⟩ | ⟨h3, h4, h5, h6⟩⟩
  · exact .inl (by omega)
  · left
    have : ∀ (lim : Int) (S : List Int) (ps : List Pc) (e : Int), scan lim S ps = some e → e ≠ 0 := by
      intro lim S ps
      induction ps generalizing S with
      | nil => intro e h; cases h
      | cons p ps ih =>
        intro e h
        rw [scan] at h
        split at h
        · injection h with h; omega
        · split at h
          · injection h with h; omega
          · exact ih _ _ h
    exact this _ _ _ _ h
  · exact .inl (by omega)
  · exact .inl (by omega)
  · exact .inr ⟨h5, h1, h2, h3, h4, h6⟩
theorem backs_even {r : Nat} {ps : List Pc} {outs : List (List UInt8)} (h : Backs r ps outs) : evenB outs = true := by
  unfold evenB
  rw [List.all_eq_true]
  intro q hq
  obtain ⟨j, hj, rfl⟩ := List.mem_iff_getElem.1 hq
  have h1 := (h.2 j _ (List.getElem?_eq_getElem hj)).1
  have h2 : (outs.headD []).length = ((datas ps).headD []).length := by
    cases outs with
    | nil => simp at hj
    | cons x l => exact (h.2 0 x rfl).1
  rw [h1, h2]; exact beq_self_eq_true _
theorem backs_sane {r : Nat} {ps : List Pc} {outs : List (List UInt8)} (h : Backs r ps outs) (hr : r ≤ 100) (hs : SanePs ps) : Sane outs := by
  refine ⟨by rw [h.1]; omega, fun q hq => ?_⟩
  obtain ⟨j, hj, rfl⟩ := List.mem_iff_getElem.1 hq
  rw [(h.2 j _ (List.getElem?_eq_getElem hj)).1]
  exact head_le fun p hp => (hs.2 p hp).2
theorem allRight_next {rows : List (List UInt8)} {ps : List Pc} {k : Nat} {p : Pc} (h : ps[k]? = some p) : allRight rows (ps.take (k + 1)) = (allRight rows (ps.take k) && decide (rows[p.1.toNat]? = some p.2)) := by
  unfold allRight; rw [Poly.take_next h, List.all_append]; simp

set_option maxRecDepth 100000 in
set_option maxHeartbeats 4000000 in
theorem words (hBack : BackSpec) (hRight : RightSpec) (A : Option Addr) (r m : Int) (ps : List Pc) (ca : Nat) (W : World) (hs : SanePs ps) (hc : ps.length ≤ ca) (wr_ : (Lit.int .i64 r).wf = true) (wm : (Lit.int .i64 m).wf = true) (hP : Pcs W A ps) :
    Calls Try.prog 4 #[.int .i64 r, .int .i64 m, .slice A ps.length ca] W (Law.Yes W) := by
  have h1 := hBack A r m ps ca W hs hc wr_ wm hP
  have h2 := fun V (hb : Below W.heap.size W V) => dBack_c r m A ps ca hs.1 hs.2 V (hP.below hb)
  have h3 := fun V (hb : Below W.heap.size W V) => hRight A r m ps ca V hs hc wr_ wm (hP.below hb)
  have H1 := Lib.hid h1
  have H2 := Lib.hid h2
  have H3 := Lib.hid h3
  have HP := Lib.hid hP
  have HS := Lib.hid hs
  have hpl := hs.1
  clear h1 h2 h3 hBack hRight hP wr_ wm hs hc
  generalize hN : ps.length = n at *
  have HN := Lib.hid hN
  clear hN
  go_enter Try.func4, Try.ntmps4
  go_wp2_with fail
  refine H1.out.mono ?_
  rintro e w1 ⟨A1, c1, o1, e1, rfl, _, hR1, hB1, hP1⟩
  have R1 := Lib.hid hR1
  have B1 := Lib.hid hB1
  have P1 := Lib.hid hP1
  clear hR1 hB1 hP1
  go_wp2_with fail
  refine (H2.out w1 B1.out).mono ?_
  rintro e w2 ⟨A2, c2, o2, e2, rfl, _, _, hR2, hB2, _, hP2⟩
  have R12 := Lib.hid (R1.out.below hB2)
  have R2 := Lib.hid hR2
  have B2 := Lib.hid (B1.out.trans (hB2.mono B1.out.size))
  obtain ⟨he, ho⟩ := back_same P1.out hP2
  subst he ho
  have l1 : o1.length ≤ 5864062014805 := by have := back_len P1.out; omega
  clear hR2 hB2 hP2
  go_wp2_with fail
  refine (H3.out w2 B2.out).mono ?_
  rintro e w3 ⟨b, e3, rfl, hB3, o3, hP3, hb1, hb2⟩
  obtain ⟨he, ho⟩ := back_same P1.out hP3
  subst he ho
  have R13 := Lib.hid (R12.out.below hB3)
  have R23 := Lib.hid (R2.out.below hB3)
  have B3 := Lib.hid (B2.out.trans (hB3.mono B2.out.size))
  have HB1 := Lib.hid hb1
  have HB2 := Lib.hid hb2
  clear hB3 hP3 hb1 hb2
  go_wp2_with fail
  refine (same_c A1 A2 o1 o1 c1 c2 l1 l1 _ R13.out R23.out).mono ?_
  rintro e w4 ⟨rfl, hd4⟩
  have hbs : (o1 == o1) = true := beq_self_eq_true _
  have B4 := Lib.hid (B3.out.trans (hd4.below _))
  have R24 := Lib.hid (R23.out.drawn hd4)
  clear hd4
  rcases back_err P1.out with hne | ⟨he0, hnb, hsc, hrl, hev, hbk⟩
  · have hbf := HB1.out hne
    subst hbf
    have hne1 : (e1 == 0) = false := by rw [beq_eq_false_iff_ne]; exact hne
    clear hne
    go_wp2
    go_ret
    exact ⟨rfl, B4.out⟩
  · subst he0
    have hnb' := hnb
    unfold badRange at hnb'
    obtain ⟨r, rfl⟩ : ∃ n : Nat, r = n := ⟨r.toNat, by omega⟩
    obtain ⟨m, rfl⟩ : ∃ n : Nat, m = n := ⟨m.toNat, by omega⟩
    rw [Int.toNat_natCast] at hbk
    have hol : o1.length = r := hbk.1
    have hsane := backs_sane hbk (by omega) HS.out
    have hD := dMore_c A2 o1 c2 (m : Int) hsane.1 hsane.head w4 R24.out
    have HD := Lib.hid hD
    have hadds : ∀ outs err, MoreIs o1 (m : Int) outs err → err = 0 ∧ Adds o1 m outs := by
      intro outs err h
      rcases h with ⟨q, _⟩ | ⟨_, q, _⟩ | ⟨_, _, q1, q2⟩
      · unfold badMore at q; omega
      · rw [backs_even hbk] at q; cases q
      · exact ⟨q1, by rwa [Int.toNat_natCast] at q2⟩
    have HADDS := Lib.hid hadds
    have HOL := Lib.hid hol
    have HSC := Lib.hid (scan_none hsc).2
    have j1 : r ≤ 100 := by omega
    have j2 : m ≤ 100 := by omega
    clear hnb hsc hrl hev hbk hsane hD hadds hol hnb'
    go_wp2_with fail
    refine HD.out.mono ?_
    rintro e w5 ⟨A5, c5, o5, e5, rfl, _, _, hR5, hB5, _, hP5⟩
    obtain ⟨rfl, had⟩ := HADDS.out _ _ hP5
    have R25 := Lib.hid (R24.out.below hB5)
    have R5 := Lib.hid hR5
    have B5 := Lib.hid (B4.out.trans (hB5.mono B4.out.size))
    have HAD := Lib.hid had
    have hol5 : o5.length = m := had.1
    have HOL5 := Lib.hid hol5
    clear hR5 hB5 hP5 had hol5
    go_wp2_with (first
      | (at_builtin; refine wpList_append_rows rfl (.tmp 64) (.tmp 65) rfl rfl rfl rfl (Table.empty w5) R25.out ((Below.refl _ _).alloc (Nat.le_refl _) _) (Nat.le_refl _) (by have := HOL.out; simp; omega) (by simp) ?_; intro A6 c6 w6 hT6 hB6; have hT6' := hT6.out; simp only [List.length_nil, Nat.zero_add, List.nil_append] at hT6'; have HT6 := Lib.hid hT6'; clear hT6' hT6)
      | (at_builtin; refine wpList_append_rows rfl (.tmp 66) (.tmp 67) rfl rfl rfl rfl HT6.out R5.out hB6.out (Nat.le_refl _) (by have := HOL.out; have := HOL5.out; simp; omega) hB6.out.size ?_; intro A7 c7 w7 hT7 hB7))
    have R7 := Lib.hid hT7.out.rds
    have B7 := Lib.hid (B5.out.trans (hB7.out.mono B5.out.size))
    have hb := HB2.out (by first | trivial | rfl) o5 (by rw [Int.toNat_natCast]; exact HAD.out)
    have HBB := Lib.hid hb
    clear hT7 hb
    go_loopw [16, 71] (fun s i wr => ∃ (k : Nat), k ≤ n ∧ i = .int .i64 k ∧ s = .bool (allRight (o1 ++ o5) (ps.take k)) ∧ Below w7.heap.size w7 wr) (fun _ i _ => n - (intOf i).toNat)
    case atStart => exact ⟨0, by omega, rfl, rfl, Below.refl _ _⟩
    case round =>
      obtain ⟨k, hk, rfl, rfl, hB⟩ := hrel
      have HB := Lib.hid hB
      have HW := Lib.hid (B7.out.trans (hB.mono B7.out.size))
      clear hB
      by_cases hlt : k < n
      · obtain ⟨b', o', C, c, p, rfl, hbl, ep, cp0, cp1, lc, lr, rr⟩ := (HP.out.below HW.out).piece (k := k) (by rw [HN.out]; exact hlt)
        obtain ⟨_, q1, q2⟩ := HSC.out p (List.mem_of_getElem? ep)
        obtain ⟨at_, data⟩ := p
        simp only at cp0 cp1 lc lr q1 q2 rr
        have hnx := allRight_next (rows := o1 ++ o5) ep
        simp only at hnx
        obtain ⟨b2, o2, C2, c2', row, rfl, er, cr, lr2, lc2, rr2⟩ := (R7.out.below HB.out).row (k := at_.toNat) (by rw [List.length_append, HOL.out, HOL5.out]; omega)
        have HNX := Lib.hid hnx
        have ER := Lib.hid er
        have RR := Lib.hid rr
        have RR2 := Lib.hid rr2
        clear hnx er rr rr2 ep
        cases hw : allRight (o1 ++ o5) (ps.take k) with
        | false =>
          have HWF := Lib.hid hw
          clear hw
          go_wp2
          go_quiet (fail)
          go_wp2
          go_roundw
          case rel => exact ⟨k + 1, by omega, by go_num, by rw [HNX.out, HWF.out]; rfl, below_drewN (HB.out.alloc HB.out.size _) _⟩
          case measure => simp [intOf]; omega
        | true =>
          have HWF := Lib.hid hw
          have cv1 := fun q => conv_c C data c ((wr.alloc (.cells #[.int .i64 at_, .slice C data.length c] 35)).drewN q) ((RR.out.alloc _).drawn ⟨_, rfl⟩)
          have cv2 := fun q => conv_c C2 row c2' ((wr.alloc (.cells #[.int .i64 at_, .slice C data.length c] 35)).drewN q) ((RR2.out.alloc _).drawn ⟨_, rfl⟩)
          have hb2 : b2 < wr.heap.size := World.block_lt_of_cell? _ _ cr
          have jj : at_ < (o1.length : Int) + (o5.length : Int) := by have h1 := HOL.out; have h2 := HOL5.out; omega
          clear hw
          go_wp2
          go_quiet (fail)
          go_wp2
          go_roundw
          case rel =>
            refine ⟨k + 1, by omega, by go_num, ?_, below_drewN (HB.out.alloc HB.out.size _) _⟩
            rw [HNX.out, HWF.out, Bool.true_and, ER.out]
            congr 1
            rw [strB_list, strB_list]
            by_cases hrd : row = data
            · simp [hrd]
            · simp [hrd]
          case measure => simp [intOf]; omega
      · obtain rfl : k = n := by omega
        have hta : ps.take k = ps := List.take_of_length_le (by rw [HN.out]; exact Nat.le_refl _)
        rw [hta]
        have hbe : (b == allRight (o1 ++ o5) ps) = true := by rw [HBB.out]; exact beq_self_eq_true _
        go_wp2
        go_ret
        exact ⟨by first | rfl | (rw [hbe]; rfl), HW.out⟩
theorem walk {H : Type} {enc : TypeId × Value → H} {base : Nat} {W : World} {v2 : Value} {d2 : DataW H} {p2 : List MemPlace}
    (a0 : Int) (w0 : (Lit.int .i64 a0).wf = true) (a1 : Int) (w1 : (Lit.int .i64 a1).wf = true) (o2 : Value.okWide Try.prog W .any base 29 v2) (h2 : DataW.Trod enc Try.prog W 0 (fun _ => true) true 29 v2 d2 p2)
    (hz : (DataW.weightsEach Try.prog [3, 3, 29] [.lit (.int .i64 a0), .lit (.int .i64 a1), d2]).all (· ≤ reachBytes) = true) :
    Calls Try.prog 4 #[.int .i64 a0, .int .i64 a1, v2] W (Law.Yes W) := by
  obtain ⟨A2, c2, l2, rfl, z2, k2, _, r2, s2⟩ := open_pcsZ Try.underlying29 Try.underlying35 (by kernel_rfl) (by kernel_rfl) (by kernel_rfl) Try.underlying3 Try.underlying33 Try.underlying5 (by kernel_rfl) (by kernel_rfl) o2 h2 hz (j := 2) rfl rfl
  exact words back_c right_c A2 a0 a1 l2 c2 W ⟨z2, s2⟩ k2 w0 w1 r2
theorem own : ownKnob Try.prog.godebug = none := by kernel_rfl
theorem laid : laidOutB Try.prog = true := by kernel_rfl
theorem pars : ∀ t ∈ Try.f4.params.toList, Try.prog.readableRec t = true ∧ t < Try.prog.types.size := by
  have h : Try.f4.params.toList.all (fun t => Try.prog.readableRec t && decide (t < Try.prog.types.size)) = true := by kernel_rfl
  intro t ht; have := List.all_eq_true.1 h t ht; simpa using this
theorem calls (H : Type) (enc : TypeId × Value → H) (W : World) (base : Nat) (args : Array Value) (ds : List (DataW H)) (before : List MemPlace)
    (hval : ∀ (j : Nat) t v, Try.f4.params[j]? = some t → args[j]? = some v → Value.okWide Try.prog W .any base t v)
    (hA : DataW.TrodAll enc Try.prog W 0 (fun _ => true) true Try.f4.params.toList args.toList ds before) (hz : (DataW.weightsEach Try.prog Try.f4.params.toList ds).all (· ≤ reachBytes) = true) :
    Calls Try.prog 4 args W (Law.Yes W) := by
  rw [Try.params4] at hA hval hz
  obtain ⟨v0, vs0, d0, ds0, p0, q0, hargs, rfl, rfl, h0, r0⟩ := trodAll_cons hA
  obtain ⟨v1, vs1, d1, ds1, p1, q1, rfl, rfl, rfl, h1, r1⟩ := trodAll_cons r0
  obtain ⟨v2, vs2, d2, ds2, p2, q2, rfl, rfl, rfl, h2, r2⟩ := trodAll_cons r1
  obtain ⟨rfl, rfl, rfl⟩ := trodAll_nil r2
  obtain rfl : args = #[v0, v1, v2] := by cases args; simp_all
  obtain ⟨a0, rfl, rfl, rfl, w0⟩ := open_int Try.underlying3 (hval 0 3 v0 rfl rfl) h0
  obtain ⟨a1, rfl, rfl, rfl, w1⟩ := open_int Try.underlying3 (hval 1 3 v1 rfl rfl) h1
  exact walk (W := W) a0 w0 a1 w1 (hval 2 29 v2 rfl rfl) h2 hz
theorem fnOf (H : Type) : ∀ ds : List (DataW H), ds.length = Try.f4.params.toList.length → Rows.coderBacksSpec.fn H ds = { results := [.lit (.bool true)], args := ds } := by
  intro ds h
  have h : ds.length = 3 := h
  obtain _ | ⟨x0, ds⟩ := ds
  · simp at h
  obtain _ | ⟨x1, ds⟩ := ds
  · simp at h
  obtain _ | ⟨x2, ds⟩ := ds
  · simp at h
  obtain rfl : ds = [] := List.eq_nil_of_length_eq_zero (by simpa using h)
  rfl
set_option maxRecDepth 100000 in
theorem lifted (os : Os) (started : os.Started) (H : Type) (enc : TypeId × Value → H) :
    ReturnsInHanded {} Try.checked os 4 .any (Rows.coderBacksSpec.pre6 enc Try.prog Try.f4 Rows.coderBacksRow.domain false) (Rows.coderBacksSpec.post enc Try.prog Try.f4 false true false false) := by
  refine returnsInHanded_of_change_sized (C := Try.checked) own started (by kernel_rfl) Try.func4
    (ChangeSpec.witness6 (enc := enc) (C := Try.checked) false ⟨#[], #[.int .i64 0, .int .i64 0, .slice none 0 0], []⟩ 8 (by kernel_rfl) (by kernel_rfl) (by kernel_rfl) (by kernel_rfl)) ?_
  intro W base args ds gs before hval hW _ hz _
  obtain ⟨p, q, hA, hV, rfl, hfz, hnd⟩ := id hW
  obtain ⟨rfl, rfl⟩ := trodVars_none hV
  simp only [List.append_nil] at hz
  have hz2 : (DataW.weightsEach Try.prog Try.f4.params.toList ds).all (· ≤ reachBytes) = true := hz
  exact Law.ending (C := Try.checked) (s := Rows.coderBacksSpec) laid pars rfl Try.underlying4 rfl (fnOf H) hW (calls H enc W base args ds p hval hA hz2)
theorem over : Rows.coderBacksRow.holds Try.pinned (OpenSpec.ofChange Rows.coderBacksSpec) :=
  OpenClaim.holds_of_wide 4 Try.f4 rfl rfl rfl rfl rfl rfl rfl ⟨rfl, rfl, rfl, rfl, rfl⟩ rfl rfl rfl rfl rfl (by kernel_rfl) Try.func4 (by kernel_rfl)
    (of_decide_eq_true (by kernel_rfl)) (by unfold Func.isWrapper; first | (rw [if_pos (by decide +kernel)]; kernel_rfl) | (rw [if_neg (by decide +kernel)]; exact ⟨rfl, rfl⟩))
    (fun os started H enc _ => lifted os started H enc)
theorem proved : Rows.CoderBacksSaid := over
end Go.Proofs.Ytomhcjnhhdbhjaa.coderBacks
