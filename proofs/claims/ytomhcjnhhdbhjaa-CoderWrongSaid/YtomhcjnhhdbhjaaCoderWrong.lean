/-
  CoderWrong: for every slice of byte rows, all integers more, who and at, and every byte by, the law CoderWrong answers true (one piece that is spoilt is seen, if there is one more than there must be), and its arguments read afterwards as before. No condition.
-/
import Derived.Test.YtomhcjnhhdbhjaaCoderAlive
import Derived.Test.YtomhcjnhhdbhjaaCoderRt
import Derived.Test.YtomhcjnhhdbhjaaLaw
import Derived.Test.YtomhcjnhhdbhjaaInts
import Derived.Test.YtomhcjnhhdbhjaaWrongPure
import Derived.Test.YtomhcjnhhdbhjaaRowsApp
import Derived.Test.YtomhcjnhhdbhjaaClone
namespace Go.Proofs.Ytomhcjnhhdbhjaa.coderWrong
open Go.ChangeShapes Go.WideShapes Go.ChangeAt Go.RowKit
open Gf Mem Poly Cdr
set_option linter.unusedVariables false
attribute [local go_sem] xor8_nat

set_option maxRecDepth 100000 in
set_option maxHeartbeats 1000000 in
theorem main (hMore : MoreSpec) (hBack : BackSpec) (hRight : RightSpec) (A : Option Addr) (rows : List (List UInt8)) (ca : Nat) (m who at_ : Int) (by_ : UInt8) (W : World) (hs : Sane rows) (wm : (Lit.int .i64 m).wf = true) (hA : Rds W A rows) :
    Calls Try.prog 6 #[.slice A rows.length ca, .int .i64 m, .int .i64 who, .int .i64 at_, .int .u8 (by_.toNat : Int)] W (Law.Yes W) := by
  have h1 := alive_c hMore hBack W
  have h2 := fun V (h : Rds V A rows) => hMore A rows ca m V hs wm h
  have H1 := Lib.hid h1
  have H2 := Lib.hid h2
  have HA := Lib.hid hA
  have HS := Lib.hid hs
  have HR := Lib.hid hRight
  have WM := Lib.hid wm
  clear h1 h2 hA hs hMore hBack hRight wm
  go_enter Try.func6, Try.ntmps6
  go_wp2_with fail
  refine H1.out.mono ?_
  rintro e w1 ⟨rfl, hb1⟩
  have B1 := Lib.hid hb1
  clear hb1
  go_wp2_with fail
  refine (H2.out w1 (HA.out.below B1.out)).mono ?_
  rintro e w2 ⟨A2, c2, x, e2, rfl, hc2, hR2, hB2, hP2⟩
  have R2 := Lib.hid hR2
  have B2 := Lib.hid (B1.out.trans (hB2.mono B1.out.size))
  clear hR2 hB2
  rcases hP2 with ⟨_, rfl, _⟩ | ⟨_, _, rfl, _⟩ | ⟨hbm, he, rfl, had⟩
  · go_wp2
    go_ret
    exact ⟨rfl, B2.out⟩
  · go_wp2
    go_ret
    exact ⟨rfl, B2.out⟩
  · obtain ⟨m', rfl⟩ : ∃ k : Nat, m = k := ⟨m.toNat, by unfold badMore at hbm; omega⟩
    have hpos : 0 < rows.length := by unfold badMore at hbm; omega
    have hn100 : rows.length ≤ 100 := by unfold badMore at hbm; omega
    have hm100 : m' ≤ 100 := by unfold badMore at hbm; omega
    rw [Int.toNat_natCast] at had
    obtain ⟨b1, o1, C, c, r, rfl, er, cr, lr, lc, rr⟩ := (HA.out.below B2.out).row (k := 0) hpos
    rw [Nat.add_zero] at cr
    have hrh : (rows.headD []).length = r.length := by
      cases rows with
      | nil => simp at hpos
      | cons q l => simp at er; rw [← er]; rfl
    have AD := Lib.hid had
    have HE := Lib.hid he
    have CR := Lib.hid cr
    have HRH := Lib.hid hrh
    have LX := Lib.hid (show x.length = m' from had.1)
    have hx : x.length = m' := had.1
    rw [hx]
    have ew : IntKind.i64.wrap ((rows.length : Int) + (m' : Int)) = (rows.length : Int) + (m' : Int) := IntWalk.i64_in _ (by omega)
    generalize hN : rows.length = n at *
    have HN := Lib.hid hN
    clear had he hrh hbm hx er rr hN
    by_cases k1 : m' < 1
    · have i1 : (m' : Int) < 1 := by omega
      go_wp2
      go_ret
      exact ⟨rfl, B2.out⟩
    · have i1 : ¬ (m' : Int) < 1 := by omega
      by_cases k2 : by_ = 0
      · subst k2
        go_wp2
        go_ret
        exact ⟨rfl, B2.out⟩
      · have i2 : ((by_.toNat : Int) == 0) = false := by
          rw [beq_eq_false_iff_ne]; intro e; exact k2 (UInt8.toNat_inj.1 (by simpa using e))
        by_cases k3 : who < 0
        · go_wp2
          go_ret
          exact ⟨rfl, B2.out⟩
        · by_cases k4 : (n : Int) + (m' : Int) ≤ who
          · go_wp2
            go_ret
            exact ⟨rfl, B2.out⟩
          · by_cases k5 : at_ < 0
            · go_wp2
              go_ret
              exact ⟨rfl, B2.out⟩
            · by_cases k6 : (r.length : Int) ≤ at_
              · go_wp2
                go_ret
                exact ⟨rfl, B2.out⟩
              · obtain ⟨w9, rfl⟩ : ∃ k : Nat, who = k := ⟨who.toNat, by omega⟩
                obtain ⟨a9, rfl⟩ : ∃ k : Nat, at_ = k := ⟨at_.toNat, by omega⟩
                have hw9 : w9 < n + m' := by omega
                have ha9 : a9 < r.length := by omega
                have hm1 : 1 ≤ m' := by omega
                have d1 : decide ((m' : Int) < 1) = false := by rw [decide_eq_false_iff_not]; omega
                have d2 : decide ((w9 : Int) < 0) = false := by rw [decide_eq_false_iff_not]; omega
                have d3 : decide ((a9 : Int) < 0) = false := by rw [decide_eq_false_iff_not]; omega
                have d4 : decide ((n : Int) + (m' : Int) ≤ (w9 : Int)) = false := by rw [decide_eq_false_iff_not]; omega
                have d5 : decide ((r.length : Int) ≤ (a9 : Int)) = false := by rw [decide_eq_false_iff_not]; omega
                have d6 : decide (m' < 1) = false := by rw [decide_eq_false_iff_not]; omega
                have d7 : decide (n + m' ≤ w9) = false := by rw [decide_eq_false_iff_not]; omega
                have d8 : decide (r.length ≤ a9) = false := by rw [decide_eq_false_iff_not]; omega
                clear k1 k3 k4 k5 k6 i1
                go_wp2_with (first
                  | (at_builtin; refine wpList_append_rows rfl (.tmp 67) (.tmp 68) rfl rfl rfl HN.out (Table.empty w2) (HA.out.below B2.out) ((Below.refl _ _).alloc (Nat.le_refl _) _) (Nat.le_refl _) (by have := HN.out; simp; omega) (by simp) ?_; intro A6 c6 w6 hT6 hB6; have hT6' := hT6.out; simp only [List.length_nil, Nat.zero_add, List.nil_append] at hT6'; have HT6 := Lib.hid hT6'; clear hT6' hT6)
                  | (at_builtin; refine wpList_append_rows rfl (.tmp 69) (.tmp 70) rfl rfl rfl LX.out HT6.out R2.out hB6.out (Nat.le_refl _) (by have := HN.out; have := LX.out; simp; omega) hB6.out.size ?_; intro A7 c7 w7 hT7 hB7))
                clear d1 d2 d3 d4 d5 d6 d7 d8 ew
                rw [HN.out]
                have hT7' := hT7.out
                rw [HN.out] at hT7'
                have R7 := Lib.hid hT7'.rds
                have B7 := Lib.hid (B2.out.trans (hB7.out.mono B2.out.size))
                have LA := Lib.hid (show (rows ++ x).length = n + m' by rw [List.length_append, HN.out, LX.out])
                have SP := Lib.hid (show (numbered (spoil (rows ++ x) w9 a9 by_)).length = n + m' by rw [numbered_len, spoil_len]; exact LA.out)
                have ROW := Lib.hid (show ∀ (k : Nat) (q : List UInt8), (rows ++ x)[k]? = some q → q.length = r.length from fun k q hq => by
                  rw [← HRH.out]
                  by_cases hk : k < rows.length
                  · rw [List.getElem?_append_left hk] at hq; exact evenB_len HE.out hq
                  · rw [List.getElem?_append_right (by omega)] at hq; exact (AD.out.2 _ _ hq).1)
                have R140 := Lib.hid (show r.length ≤ 140737488351232 by rw [← HRH.out]; exact HS.out.head)
                clear hT7 hT7' hB7 HT6 hB6
                go_loopw [13, 73] (fun s i wr => ∃ (k : Nat) (A3 : Option Addr) (c3 : Nat), k ≤ n + m' ∧ i = .int .i64 k ∧ s = .slice A3 k c3 ∧ PTable wr w7.heap.size s ((numbered (spoil (rows ++ x) w9 a9 by_)).take k) ∧ Below w7.heap.size w7 wr) (fun _ i _ => n + m' - (intOf i).toNat)
                case atStart => exact ⟨0, none, 0, by omega, rfl, rfl, PTable.nil _ _, Below.refl _ _⟩
                case round =>
                  obtain ⟨k, A3, c3, hk, rfl, rfl, hT, hB⟩ := hrel
                  obtain ⟨wo, rfl⟩ : ∃ wo : World, wo = wr := ⟨_, rfl⟩
                  have HT := Lib.hid hT
                  have HB := Lib.hid hB
                  clear hT hB
                  by_cases hlt : k < n + m'
                  · have HLT := Lib.hid hlt
                    obtain ⟨b3, o3, D, d, q, rfl, eq, cq, lq, ld, qq⟩ := (R7.out.below HB.out).row (k := k) (by rw [LA.out]; exact hlt)
                    have hql := ROW.out k q eq
                    have cl := clone_c D q d wo (by rw [hql]; exact R140.out) qq
                    rw [hql] at cl
                    have CL := Lib.hid cl
                    have LK := Lib.hid (show ((numbered (spoil (rows ++ x) w9 a9 by_)).take k).length = k from Poly.take_len (by rw [SP.out]; omega))
                    have LK1 := Lib.hid (show ((numbered (spoil (rows ++ x) w9 a9 by_)).take (k + 1)).length = k + 1 from Poly.take_len (by rw [SP.out]; omega))
                    have EQ := Lib.hid eq
                    have HQL := Lib.hid hql
                    rw [hql] at cq
                    clear eq qq hql lq ld cl
                    go_wp2_with fail
                    refine CL.out.mono ?_
                    rintro e w8 ⟨A4, c4, rfl, hc4, hM, hB8⟩
                    have FAR : ∀ g, (Value.slice A3 k c3).ownBlock = some g → g < wo.heap.size := fun g hg => (HT.out.lt g hg).2
                    by_cases hkw : k = w9
                    · obtain ⟨g, z, rfl, hg, hgl, ez, cz, fz⟩ := hM.at_ (k := a9) (by rw [HQL.out]; exact ha9)
                      have hM' := hM.put (g := g) (k := a9) rfl (xor8 z by_)
                      have hset : q.set a9 (xor8 z by_) = q.modify a9 (· ^^^ by_) := modify_set (· ^^^ by_) ez
                      rw [hset] at hM'
                      have hb9 : Below wo.heap.size wo (w8.setCell ⟨g, a9, none⟩ (.int .u8 ((xor8 z by_).toNat : Int))) := hB8.setCell (p := ⟨g, a9, none⟩) hg _
                      have HT9 := Lib.hid (HT.out.later hb9)
                      have ho := hM'.rowOff (own := (Value.slice A3 k c3).ownBlock) (c := c4) FAR (by rw [List.length_modify, HQL.out]; exact hc4) (by rw [List.length_modify, HQL.out]; have := R140.out; omega)
                      rw [List.length_modify, HQL.out] at ho
                      have HO9 := Lib.hid ho
                      have HS9 := Lib.hid (Nat.le_trans HB.out.size hb9.size)
                      have HB9 := Lib.hid (HB.out.trans (hb9.mono HB.out.size))
                      have NX := Lib.hid (show (numbered (spoil (rows ++ x) w9 a9 by_)).take (k + 1) = (numbered (spoil (rows ++ x) w9 a9 by_)).take k ++ [((k : Int), q.modify a9 (· ^^^ by_))] from Poly.take_next (by rw [numbered_at, hkw, spoil_on (by rw [← hkw]; exact EQ.out)]; rfl))
                      have t1 : ((k : Int) == (w9 : Int)) = true := by rw [hkw]; exact beq_self_eq_true _
                      clear hM hM' hset hB8 hb9 ho ez hkw FAR
                      go_wp2_with (at_builtin; refine wpList_append_pc rfl (.tmp 90) (.tmp 94) rfl rfl (by show Value.slice (some ⟨w8.heap.size, 0, none⟩) 1 1 = _; simp) HT9.out HO9.out ?c3 HS9.out HB9.out (Nat.le_refl _) ?_)
                      case c3 => rw [LK.out]; omega
                      intro v' w5 hT5 hB5
                      have hT5' := hT5.out
                      rw [← NX.out] at hT5'
                      obtain ⟨A5, c5, hv, _, _⟩ := hT5'.form
                      rw [LK1.out] at hv
                      subst hv
                      have HT5 := Lib.hid hT5'
                      have HB5 := Lib.hid hB5
                      have hlt9 := HLT.out
                      clear hT5 hT5' hB5
                      go_wp2
                      go_roundw
                      case rel => exact ⟨k + 1, A5, c5, HLT.out, by go_num, rfl, HT5.out, HB5.out⟩
                      case measure => have := HLT.out; simp [intOf]; omega
                    · have HT9 := Lib.hid (HT.out.later hB8)
                      have ho := hM.rowOff (own := (Value.slice A3 k c3).ownBlock) (c := c4) FAR (by rw [HQL.out]; exact hc4) (by rw [HQL.out]; have := R140.out; omega)
                      rw [HQL.out] at ho
                      have HO9 := Lib.hid ho
                      have HS9 := Lib.hid (Nat.le_trans HB.out.size hB8.size)
                      have HB9 := Lib.hid (HB.out.trans (hB8.mono HB.out.size))
                      have NX := Lib.hid (show (numbered (spoil (rows ++ x) w9 a9 by_)).take (k + 1) = (numbered (spoil (rows ++ x) w9 a9 by_)).take k ++ [((k : Int), q)] from Poly.take_next (by rw [numbered_at, spoil_off hkw, EQ.out]; rfl))
                      have t1 : ((k : Int) == (w9 : Int)) = false := by rw [beq_eq_false_iff_ne]; omega
                      clear hM hB8 ho hkw FAR
                      go_wp2_with (at_builtin; refine wpList_append_pc rfl (.tmp 90) (.tmp 94) rfl rfl rfl HT9.out HO9.out ?c3 HS9.out HB9.out (Nat.le_refl _) ?_)
                      case c3 => rw [LK.out]; omega
                      intro v' w5 hT5 hB5
                      have hT5' := hT5.out
                      rw [← NX.out] at hT5'
                      obtain ⟨A5, c5, hv, _, _⟩ := hT5'.form
                      rw [LK1.out] at hv
                      subst hv
                      have HT5 := Lib.hid hT5'
                      have HB5 := Lib.hid hB5
                      have hlt9 := HLT.out
                      clear hT5 hT5' hB5
                      go_wp2
                      go_roundw
                      case rel => exact ⟨k + 1, A5, c5, HLT.out, by go_num, rfl, HT5.out, HB5.out⟩
                      case measure => have := HLT.out; simp [intOf]; omega
                  · obtain rfl : k = n + m' := by omega
                    have hps : (numbered (spoil (rows ++ x) w9 a9 by_)).take (n + m') = numbered (spoil (rows ++ x) w9 a9 by_) := List.take_of_length_le (by rw [SP.out]; exact Nat.le_refl _)
                    have hT := HT.out
                    rw [hps] at hT
                    have wf9 : ∀ k : Nat, k ≤ 200 → (Lit.int .i64 (k : Int)).wf = true := fun k hk => by
                      simp [Lit.wf, IntKind.min, IntKind.max, IntKind.bits, IntKind.signed]; omega
                    have hcl : (numbered (spoil (rows ++ x) w9 a9 by_)).length ≤ c3 := by
                      obtain ⟨_, _, hv, hle, _⟩ := hT.form
                      injection hv with _ _ hv
                      rw [hv]; exact hle
                    have hr := HR.out A3 (n : Int) (m' : Int) (numbered (spoil (rows ++ x) w9 a9 by_)) c3 wo ⟨by rw [SP.out]; omega, fun p hp => by
                      obtain ⟨p1, p2⟩ := numbered_mem hp
                      have p3 := (List.getElem?_eq_some_iff.1 p2).1
                      rw [spoil_len, LA.out] at p3
                      obtain ⟨r', p4, p5⟩ := spoil_row p2
                      exact ⟨by rw [show p.1 = ((p.1.toNat : Nat) : Int) by omega]; exact wf9 _ (by omega), by rw [p5, ROW.out _ _ p4]; exact R140.out⟩⟩ hcl (wf9 n (by omega)) (wf9 m' (by omega)) hT.pcs
                    rw [SP.out] at hr
                    have RG := Lib.hid hr
                    have BW := Lib.hid (B7.out.trans (HB.out.mono B7.out.size))
                    clear hps hT wf9 hr hcl
                    go_wp2_with fail
                    refine RG.out.mono ?_
                    rintro e w5 ⟨b, err, rfl, hB5, hP5⟩
                    obtain ⟨rfl, rfl⟩ := spoilt_right (by rw [HN.out]; exact hpos) (by rw [HN.out]; exact hn100) hm1 hm100 HE.out AD.out (by rw [HN.out]; exact hw9) (by rw [HRH.out]; exact ha9) k2 (by rw [HN.out]; exact hP5)
                    have B9 := Lib.hid (BW.out.trans (hB5.mono BW.out.size))
                    clear hB5 hP5
                    go_wp2
                    go_ret
                    exact ⟨rfl, B9.out⟩
theorem walk {H : Type} {enc : TypeId × Value → H} {base : Nat} {W : World} {v0 : Value} {d0 : DataW H} {p0 : List MemPlace}
    (o0 : Value.okWide Try.prog W .any base 22 v0) (h0 : DataW.Trod enc Try.prog W 0 (fun _ => true) true 22 v0 d0 p0) (a1 : Int) (w1 : (Lit.int .i64 a1).wf = true) (a2 : Int) (w2 : (Lit.int .i64 a2).wf = true) (a3 : Int) (w3 : (Lit.int .i64 a3).wf = true) (a4 : Int) (w4 : (Lit.int .u8 a4).wf = true)
    (hz : (DataW.weightsEach Try.prog [22, 3, 3, 3, 5] [d0, .lit (.int .i64 a1), .lit (.int .i64 a2), .lit (.int .i64 a3), .lit (.int .u8 a4)]).all (· ≤ reachBytes) = true) :
    Calls Try.prog 6 #[v0, .int .i64 a1, .int .i64 a2, .int .i64 a3, .int .u8 a4] W (Law.Yes W) := by
  obtain ⟨A0, c0, l0, rfl, z0, k0, _, r0, s0⟩ := open_rowsZ Try.underlying22 Try.underlying33 Try.underlying5 (by kernel_rfl) (by kernel_rfl) (by kernel_rfl) (by kernel_rfl) o0 h0 hz (j := 0) rfl rfl
  obtain ⟨b4, rfl⟩ := Words.of_wf8 w4
  exact main more_c back_c right_c A0 l0 c0 a1 a2 a3 b4 W ⟨z0, s0⟩ w1 r0
theorem own : ownKnob Try.prog.godebug = none := by kernel_rfl
theorem laid : laidOutB Try.prog = true := by kernel_rfl
theorem pars : ∀ t ∈ Try.f6.params.toList, Try.prog.readableRec t = true ∧ t < Try.prog.types.size := by
  have h : Try.f6.params.toList.all (fun t => Try.prog.readableRec t && decide (t < Try.prog.types.size)) = true := by kernel_rfl
  intro t ht; have := List.all_eq_true.1 h t ht; simpa using this
theorem calls (H : Type) (enc : TypeId × Value → H) (W : World) (base : Nat) (args : Array Value) (ds : List (DataW H)) (before : List MemPlace)
    (hval : ∀ (j : Nat) t v, Try.f6.params[j]? = some t → args[j]? = some v → Value.okWide Try.prog W .any base t v)
    (hA : DataW.TrodAll enc Try.prog W 0 (fun _ => true) true Try.f6.params.toList args.toList ds before) (hz : (DataW.weightsEach Try.prog Try.f6.params.toList ds).all (· ≤ reachBytes) = true) :
    Calls Try.prog 6 args W (Law.Yes W) := by
  rw [Try.params6] at hA hval hz
  obtain ⟨v0, vs0, d0, ds0, p0, q0, hargs, rfl, rfl, h0, r0⟩ := trodAll_cons hA
  obtain ⟨v1, vs1, d1, ds1, p1, q1, rfl, rfl, rfl, h1, r1⟩ := trodAll_cons r0
  obtain ⟨v2, vs2, d2, ds2, p2, q2, rfl, rfl, rfl, h2, r2⟩ := trodAll_cons r1
  obtain ⟨v3, vs3, d3, ds3, p3, q3, rfl, rfl, rfl, h3, r3⟩ := trodAll_cons r2
  obtain ⟨v4, vs4, d4, ds4, p4, q4, rfl, rfl, rfl, h4, r4⟩ := trodAll_cons r3
  obtain ⟨rfl, rfl, rfl⟩ := trodAll_nil r4
  obtain rfl : args = #[v0, v1, v2, v3, v4] := by cases args; simp_all
  obtain ⟨a1, rfl, rfl, rfl, w1⟩ := open_int Try.underlying3 (hval 1 3 v1 rfl rfl) h1
  obtain ⟨a2, rfl, rfl, rfl, w2⟩ := open_int Try.underlying3 (hval 2 3 v2 rfl rfl) h2
  obtain ⟨a3, rfl, rfl, rfl, w3⟩ := open_int Try.underlying3 (hval 3 3 v3 rfl rfl) h3
  obtain ⟨a4, rfl, rfl, rfl, w4⟩ := open_int Try.underlying5 (hval 4 5 v4 rfl rfl) h4
  exact walk (W := W) (hval 0 22 v0 rfl rfl) h0 a1 w1 a2 w2 a3 w3 a4 w4 hz
theorem fnOf (H : Type) : ∀ ds : List (DataW H), ds.length = Try.f6.params.toList.length → Rows.coderWrongSpec.fn H ds = { results := [.lit (.bool true)], args := ds } := by
  intro ds h
  have h : ds.length = 5 := h
  obtain _ | ⟨x0, ds⟩ := ds
  · simp at h
  obtain _ | ⟨x1, ds⟩ := ds
  · simp at h
  obtain _ | ⟨x2, ds⟩ := ds
  · simp at h
  obtain _ | ⟨x3, ds⟩ := ds
  · simp at h
  obtain _ | ⟨x4, ds⟩ := ds
  · simp at h
  obtain rfl : ds = [] := List.eq_nil_of_length_eq_zero (by simpa using h)
  rfl
set_option maxRecDepth 100000 in
theorem lifted (os : Os) (started : os.Started) (H : Type) (enc : TypeId × Value → H) :
    ReturnsInHanded {} Try.checked os 6 .any (Rows.coderWrongSpec.pre6 enc Try.prog Try.f6 Rows.coderWrongRow.domain false) (Rows.coderWrongSpec.post enc Try.prog Try.f6 false true false false) := by
  refine returnsInHanded_of_change_sized (C := Try.checked) own started (by kernel_rfl) Try.func6
    (ChangeSpec.witness6 (enc := enc) (C := Try.checked) false ⟨#[], #[.slice none 0 0, .int .i64 0, .int .i64 0, .int .i64 0, .int .u8 0], []⟩ 8 (by kernel_rfl) (by kernel_rfl) (by kernel_rfl) (by kernel_rfl)) ?_
  intro W base args ds gs before hval hW _ hz _
  obtain ⟨p, q, hA, hV, rfl, hfz, hnd⟩ := id hW
  obtain ⟨rfl, rfl⟩ := trodVars_none hV
  simp only [List.append_nil] at hz
  have hz2 : (DataW.weightsEach Try.prog Try.f6.params.toList ds).all (· ≤ reachBytes) = true := hz
  exact Law.ending (C := Try.checked) (s := Rows.coderWrongSpec) laid pars rfl Try.underlying4 rfl (fnOf H) hW (calls H enc W base args ds p hval hA hz2)
theorem over : Rows.coderWrongRow.holds Try.pinned (OpenSpec.ofChange Rows.coderWrongSpec) :=
  OpenClaim.holds_of_wide 6 Try.f6 rfl rfl rfl rfl rfl rfl rfl ⟨rfl, rfl, rfl, rfl, rfl⟩ rfl rfl rfl rfl rfl (by kernel_rfl) Try.func6 (by kernel_rfl)
    (of_decide_eq_true (by kernel_rfl)) (by unfold Func.isWrapper; first | (rw [if_pos (by decide +kernel)]; kernel_rfl) | (rw [if_neg (by decide +kernel)]; exact ⟨rfl, rfl⟩))
    (fun os started H enc _ => lifted os started H enc)
theorem proved : Rows.CoderWrongSaid := over
end Go.Proofs.Ytomhcjnhhdbhjaa.coderWrong
