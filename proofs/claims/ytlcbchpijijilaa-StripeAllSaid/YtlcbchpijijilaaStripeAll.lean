/-
  StripeAll: for every layout and all integers at and long, the law StripeAll answers true (the extents of a range are as long as what was asked for, stand where each byte is, and no neighbours are one piece), and its arguments read afterwards as before. No condition.
-/
import Derived.Test.YtlcbchpijijilaaStAlive
import Derived.Test.YtlcbchpijijilaaStLay
namespace Go.Proofs.Ytlcbchpijijilaa.stripeAll
open Go.ChangeShapes Go.WideShapes Go.ChangeAt Go.RowKit
open Mem Stripe
set_option linter.unusedVariables false

set_option maxRecDepth 100000 in
set_option maxHeartbeats 1000000 in
theorem early (u w d a l k : Int) (V : World) (hk : k ≠ 0) (h : ∀ V, Calls Try.prog 15 #[.agg #[.int .i64 u, .int .i64 w, .int .i64 d], .int .i64 a, .int .i64 l] V (Gave (.tuple #[.slice none 0 0, .int .i64 k]) V)) :
    Calls Try.prog 6 #[.agg #[.int .i64 u, .int .i64 w, .int .i64 d], .int .i64 a, .int .i64 l] V (Law.Yes V) := by
  have H := Lib.hid h
  have n1 : (k == 0) = false := by simpa using hk
  have n2 : (k != 0) = true := by simpa using hk
  clear h hk
  go_enter Try.func6, Try.ntmps6
  go_wp2_with fail
  refine (alive_c _).mono ?_
  rintro e w1 ⟨rfl, hb⟩
  obtain ⟨c0, c1, c2⟩ := box_cells hb
  have HB := Lib.hid hb
  clear hb
  go_wp2_with fail
  refine (H.out _).mono ?_
  rintro e w2 ⟨rfl, hb⟩
  have HB2 := Lib.hid (HB.out.trans (hb.mono HB.out.size))
  clear hb c0 c1 c2
  go_wp2
  go_ret
  exact ⟨rfl, below_box HB2.out⟩
set_option maxRecDepth 100000 in
set_option maxHeartbeats 4000000 in
theorem main (U W D n m : Nat) (V : World) (h : Ok U W D) (h1 : n + m ≤ 1099511627776) (h2 : m / U ≤ 400) :
    Calls Try.prog 6 #[.agg #[.int .i64 U, .int .i64 W, .int .i64 D], .int .i64 n, .int .i64 m] V (Law.Yes V) := by
  have H := Lib.hid (fun V => split_ok U W D n m V h h1 h2)
  have HW := Lib.hid (fun x (hx : x ≤ 1099511627776) V => where_ok U W D x V h hx)
  have G := Lib.hid (show Stripe.Good (objOf U W D) (frOf U W D) n m (exts U W D n m) from grow_good n m)
  have GL := show (exts U W D n m).length ≤ m from grow_len n m
  have FB := Lib.hid (fun n => show frOf U W D n < 1048576 * 1024 + 1 by
    obtain ⟨hU, hW, hD⟩ := h
    have k1 : U * D ≤ 1048576 * 1024 := mul_le (by omega) (by omega)
    have := fr_lt (W := W) hU.1 hD.1 n
    omega)
  generalize hes : exts U W D n m = es at *
  generalize hl : es.length = l at *
  have HL := Lib.hid hl
  clear hes hl h2 h
  go_enter Try.func6, Try.ntmps6
  go_wp2_with fail
  refine (alive_c _).mono ?_
  rintro e w1 ⟨rfl, hb⟩
  obtain ⟨c0, c1, c2⟩ := box_cells hb
  have HB := Lib.hid hb
  clear hb
  go_wp2_with fail
  refine (H.out _).mono ?_
  rintro e w2 ⟨A, ca, rfl, _, hT, hb⟩
  have HB2 := Lib.hid (HB.out.trans (hb.mono HB.out.size))
  have HR := Lib.hid hT.rds
  rw [HL.out]
  clear hb hT c0 c1 c2 HB H
  go_wp2
  go_loopw [1, 2, 30] (fun s1 s2 i wr => ∃ k : Nat, k ≤ l ∧ i = .int .i64 k ∧ s1 = .int .i64 ((n : Int) + (tot (es.take k) : Nat)) ∧ s2 = .int .i64 ((m : Int) - (tot (es.take k) : Nat)) ∧ Below w2.heap.size w2 wr) (fun _ _ i _ => l - (intOf i).toNat)
  case atStart => exact ⟨0, by omega, rfl, by simp [tot], by simp [tot], Below.refl _ _⟩
  case round =>
    obtain ⟨k, hk, rfl, rfl, rfl, hB⟩ := hrel
    have KB := Lib.hid hB
    have ts : tot (es.take k) ≤ m := by
      have h := G.out.1
      rw [← List.take_append_drop k es, tot_app] at h
      omega
    clear hB
    by_cases hlt : k < l
    · have kz : k < es.length := by rw [HL.out]; exact hlt
      obtain ⟨b, o, rfl, hbl, x0, x1, x2⟩ := HR.out.ext kz
      have e1 : es[k]? = some es[k] := List.getElem?_eq_getElem kz
      obtain ⟨g1, g2, g3⟩ := G.out.2 k _ e1
      have g4 := g2 0 (by omega)
      rw [Nat.add_zero] at g4
      have tn : tot (es.take (k + 1)) = tot (es.take k) + es[k].2.2 := by
        rw [List.take_succ_eq_append_getElem kz, tot_app, tot_one]
      have TN := Lib.hid tn
      have ts2 : tot (es.take k) + es[k].2.2 ≤ m := by
        have h := G.out.1
        rw [← List.take_append_drop (k + 1) es, tot_app, tn] at h
        omega
      have fb := FB.out (n + tot (es.take k))
      have HW2 := fun V => HW.out (n + tot (es.take k)) (by omega) V
      rw [g4.1, g4.2, Int.natCast_add] at HW2
      rw [g4.2] at fb
      have HW3 := Lib.hid HW2
      have prev : k = 0 ∨ ∃ p : Ex, es[k - 1]? = some p ∧ meets p es[k] = false ∧ p.2.1 + p.2.2 ≤ 1099511627776 * 2 := by
        by_cases h0 : k = 0
        · exact .inl h0
        · have hp : es[k - 1]? = some (es[k - 1]'(by omega)) := List.getElem?_eq_getElem _
          refine .inr ⟨_, hp, g3 _ (by omega) hp, ?_⟩
          obtain ⟨q1, q2, _⟩ := G.out.2 (k - 1) _ hp
          have q3 := q2 0 (by omega)
          have q4 := FB.out (n + tot (es.take (k - 1)) + 0)
          rw [q3.2] at q4
          have q5 : tot (es.take (k - 1)) + (es[k - 1]'(by omega)).2.2 ≤ m := by
            have h := G.out.1
            rw [← List.take_append_drop (k - 1 + 1) es, tot_app, List.take_succ_eq_append_getElem (by omega), tot_app, tot_one] at h
            omega
          omega
      have y0 := (KB.out.cell (p := ⟨b, o + k * 3, none⟩) hbl).trans x0
      have y1 := (KB.out.cell (p := ⟨b, o + k * 3 + 1, none⟩) hbl).trans x1
      have y2 := (KB.out.cell (p := ⟨b, o + k * 3 + 2, none⟩) hbl).trans x2
      obtain ⟨d0, d1, d2⟩ := box_cells (HB2.out.trans (KB.out.mono HB2.out.size))
      have vlt : V.heap.size < wr.heap.size := by have h3 := HB2.out.size; have h4 := KB.out.size; simp at h3; omega
      have vne : ¬ V.heap.size = wr.heap.size := by omega
      generalize hob : es[k].1 = ob at *
      generalize hfr : es[k].2.1 = fr at *
      generalize hln : es[k].2.2 = ln at *
      generalize hT : tot (es.take k) = t at *
      have ME : ∀ p : Ex, meets p es[k] = (p.1 == ob && p.2.1 + p.2.2 == fr) := fun p => by rw [← hob, ← hfr]; rfl
      have PR : k = 0 ∨ ∃ j p0 p1 p2 : Nat, k = j + 1 ∧ es[j]? = some (p0, p1, p2) ∧ (p0 == ob && p1 + p2 == fr) = false ∧ p1 + p2 ≤ 1099511627776 * 2 := by
        rcases prev with h | ⟨⟨p0, p1, p2⟩, h1, h2, h3⟩
        · exact .inl h
        · rw [ME] at h2
          by_cases h0 : k = 0
          · exact .inl h0
          · exact .inr ⟨k - 1, p0, p1, p2, by omega, h1, h2, h3⟩
      have i1 : (k : Int) < (l : Int) := by omega
      have n1 : ((ln : Int) < 1) = False := by simp; omega
      have d4 : decide ((ln : Int) < 1) = false := by rw [decide_eq_false_iff_not]; omega
      clear e1 g2 g3 g4 tn HW2 x0 x1 x2 ME prev hob hfr hln hT kz n1
      rcases PR with rfl | ⟨j, p0, p1, p2, rfl, hp, hme, hpb⟩
      · have d5 : decide ((0 : Int) < 0) = false := by decide
        rw [Nat.zero_mul, Nat.add_zero] at y0 y1 y2
        go_wp2_with fail
        refine (HW3.out _).mono ?_
        rintro e w3 ⟨rfl, hb3⟩
        have kn := (Known.made wr 43 #[.int .i64 ob, .int .i64 fr, .int .i64 ln]).later hb3
        have z0 : w3.cell? ⟨wr.heap.size, 0, none⟩ = some (.int .i64 ob) := kn.cell 0
        have z1 : w3.cell? ⟨wr.heap.size, 1, none⟩ = some (.int .i64 fr) := kn.cell 1
        have z2 : w3.cell? ⟨wr.heap.size, 2, none⟩ = some (.int .i64 ln) := kn.cell 2
        have hb4 := KB.out.trans ((below_box hb3).mono KB.out.size)
        have KB3 := Lib.hid hb4
        clear kn hb3 hb4 d0 d1 d2 y0 y1 y2
        go_wp2
        go_quiet (fail)
        go_wp2
        go_roundw
        case rel => exact ⟨0 + 1, by omega, by go_num, by rw [TN.out]; go_num, by rw [TN.out]; go_num, below_drewN KB3.out _⟩
        case measure => simp [intOf]; omega
      · obtain ⟨b', o', eA, _, pc0, pc1, pc2⟩ := HR.out j _ hp
        injection eA with eA
        injection eA with eA1 eA2
        subst eA1 eA2
        have pc : _ ∧ _ ∧ _ := ⟨pc0, pc1, pc2⟩
        have PC := Lib.hid pc
        have x1 : IntKind.i64.wrap (((j + 1 : Nat) : Int) - 1) = (j : Int) := by rw [IntWalk.i64_in _ (by omega)]; omega
        have x2 : IntKind.i64.wrap ((j : Int) + 1 - 1) = (j : Int) := by rw [IntWalk.i64_in _ (by omega)]; omega
        have x3 : IntKind.i64.wrap ((p1 : Int) + (p2 : Int)) = (p1 : Int) + (p2 : Int) := IntWalk.i64_in _ (by omega)
        have i2 : (j : Int) < (l : Int) := by omega
        have d5 : decide ((0 : Int) < (j : Int) + 1) = true := by rw [decide_eq_true_iff]; omega
        clear hp pc pc0 pc1 pc2
        by_cases e : p0 = ob
        · subst e
          have n2 : ((p1 : Int) + (p2 : Int) == (fr : Int)) = false := by
            rw [beq_self_eq_true, Bool.true_and, beq_eq_false_iff_ne] at hme
            rw [beq_eq_false_iff_ne]; omega
          clear hme
          go_wp2_with fail
          refine (HW3.out _).mono ?_
          rintro e w3 ⟨rfl, hb3⟩
          have kn := (Known.made wr 43 #[.int .i64 p0, .int .i64 fr, .int .i64 ln]).later hb3
          have z0 : w3.cell? ⟨wr.heap.size, 0, none⟩ = some (.int .i64 p0) := kn.cell 0
          have z1 : w3.cell? ⟨wr.heap.size, 1, none⟩ = some (.int .i64 fr) := kn.cell 1
          have z2 : w3.cell? ⟨wr.heap.size, 2, none⟩ = some (.int .i64 ln) := kn.cell 2
          have hb4 := KB.out.trans ((below_box hb3).mono KB.out.size)
          have KB3 := Lib.hid hb4
          have pc := PC.out
          have v0 : w3.cell? ⟨b, o + j * 3, none⟩ = some (.int .i64 p0) := (hb4.cell (p := ⟨b, _, none⟩) hbl).trans pc.1
          have v1 : w3.cell? ⟨b, o + j * 3 + 1, none⟩ = some (.int .i64 p1) := (hb4.cell (p := ⟨b, _, none⟩) hbl).trans pc.2.1
          have v2 : w3.cell? ⟨b, o + j * 3 + 2, none⟩ = some (.int .i64 p2) := (hb4.cell (p := ⟨b, _, none⟩) hbl).trans pc.2.2
          clear pc kn hb3 hb4 d0 d1 d2 y0 y1 y2
          go_wp2
          go_quiet (fail)
          go_wp2
          go_roundw
          case rel => exact ⟨j + 1 + 1, by omega, by go_num, by rw [TN.out]; go_num, by rw [TN.out]; go_num, below_drewN KB3.out _⟩
          case measure => simp [intOf]; omega
        · have n2 : ((p0 : Int) == (ob : Int)) = false := by rw [beq_eq_false_iff_ne]; omega
          clear hme e
          go_wp2_with fail
          refine (HW3.out _).mono ?_
          rintro e w3 ⟨rfl, hb3⟩
          have kn := (Known.made wr 43 #[.int .i64 ob, .int .i64 fr, .int .i64 ln]).later hb3
          have z0 : w3.cell? ⟨wr.heap.size, 0, none⟩ = some (.int .i64 ob) := kn.cell 0
          have z1 : w3.cell? ⟨wr.heap.size, 1, none⟩ = some (.int .i64 fr) := kn.cell 1
          have z2 : w3.cell? ⟨wr.heap.size, 2, none⟩ = some (.int .i64 ln) := kn.cell 2
          have hb4 := KB.out.trans ((below_box hb3).mono KB.out.size)
          have KB3 := Lib.hid hb4
          have pc := PC.out
          have v0 : w3.cell? ⟨b, o + j * 3, none⟩ = some (.int .i64 p0) := (hb4.cell (p := ⟨b, _, none⟩) hbl).trans pc.1
          have v1 : w3.cell? ⟨b, o + j * 3 + 1, none⟩ = some (.int .i64 p1) := (hb4.cell (p := ⟨b, _, none⟩) hbl).trans pc.2.1
          have v2 : w3.cell? ⟨b, o + j * 3 + 2, none⟩ = some (.int .i64 p2) := (hb4.cell (p := ⟨b, _, none⟩) hbl).trans pc.2.2
          clear pc kn hb3 hb4 d0 d1 d2 y0 y1 y2
          go_wp2
          go_quiet (fail)
          go_wp2
          go_roundw
          case rel => exact ⟨j + 1 + 1, by omega, by go_num, by rw [TN.out]; go_num, by rw [TN.out]; go_num, below_drewN KB3.out _⟩
          case measure => simp [intOf]; omega
    · obtain rfl : k = l := by omega
      have e : tot (es.take k) = m := by rw [List.take_of_length_le (by rw [HL.out]; exact Nat.le_refl _)]; exact G.out.1
      have e2 : (m : Int) - (m : Int) = 0 := by omega
      rw [e]
      clear e ts
      go_wp2
      go_ret
      exact ⟨rfl, below_box (HB2.out.trans (KB.out.mono HB2.out.size))⟩
theorem words (u w d a l : Int) (V : World) (wl : (Lit.int .i64 l).wf = true) :
    Calls Try.prog 6 #[.agg #[.int .i64 u, .int .i64 w, .int .i64 d], .int .i64 a, .int .i64 l] V (Law.Yes V) := by
  by_cases h : OkZ u w d
  · obtain ⟨U, W, D, rfl, rfl, rfl, hok⟩ := h.n
    by_cases hr : RangeOk U a l
    · obtain ⟨h1, h2, h3, h4⟩ := hr
      obtain ⟨m, rfl⟩ : ∃ m : Nat, l = m := ⟨l.toNat, by omega⟩
      obtain ⟨n, rfl⟩ : ∃ n : Nat, a = n := ⟨a.toNat, by omega⟩
      rw [divs] at h4
      exact main U W D n m V hok (by omega) (by omega)
    · exact early _ _ _ _ _ 2 V (by omega) (fun V => split_err _ _ _ _ _ 2 V (by omega) (fun V => wr_bad U W D a l V hok (wf_le wl) hr))
  · exact early _ _ _ _ _ 1 V (by omega) (fun V => split_err _ _ _ _ _ 1 V (by omega) (fun V => wr_form u w d a l V h))
theorem walk {H : Type} {enc : TypeId × Value → H} {base : Nat} {W : World} {v0 : Value} {d0 : DataW H} {p0 : List MemPlace}
    (o0 : Value.okWide Try.prog W .any base 23 v0) (h0 : DataW.Trod enc Try.prog W 0 (fun _ => true) true 23 v0 d0 p0) (a1 : Int) (w1 : (Lit.int .i64 a1).wf = true) (a2 : Int) (w2 : (Lit.int .i64 a2).wf = true) :
    Calls Try.prog 6 #[v0, .int .i64 a1, .int .i64 a2] W (Law.Yes W) := by
  obtain ⟨u, w, z, rfl, _, _, _⟩ := open_layout o0 h0
  exact words u w z a1 a2 W w2
theorem own : ownKnob Try.prog.godebug = none := by kernel_rfl
theorem laid : laidOutB Try.prog = true := by kernel_rfl
theorem pars : ∀ t ∈ Try.f6.params.toList, Try.prog.readableRec t = true ∧ t < Try.prog.types.size := by
  have h : Try.f6.params.toList.all (fun t => Try.prog.readableRec t && decide (t < Try.prog.types.size)) = true := by kernel_rfl
  intro t ht; have := List.all_eq_true.1 h t ht; simpa using this
theorem calls (H : Type) (enc : TypeId × Value → H) (W : World) (base : Nat) (args : Array Value) (ds : List (DataW H)) (before : List MemPlace)
    (hval : ∀ (j : Nat) t v, Try.f6.params[j]? = some t → args[j]? = some v → Value.okWide Try.prog W .any base t v)
    (hA : DataW.TrodAll enc Try.prog W 0 (fun _ => true) true Try.f6.params.toList args.toList ds before) :
    Calls Try.prog 6 args W (Law.Yes W) := by
  rw [Try.params6] at hA hval
  obtain ⟨v0, vs0, d0, ds0, p0, q0, hargs, rfl, rfl, h0, r0⟩ := trodAll_cons hA
  obtain ⟨v1, vs1, d1, ds1, p1, q1, rfl, rfl, rfl, h1, r1⟩ := trodAll_cons r0
  obtain ⟨v2, vs2, d2, ds2, p2, q2, rfl, rfl, rfl, h2, r2⟩ := trodAll_cons r1
  obtain ⟨rfl, rfl, rfl⟩ := trodAll_nil r2
  obtain rfl : args = #[v0, v1, v2] := by cases args; simp_all
  obtain ⟨a1, rfl, rfl, rfl, w1⟩ := open_int Try.underlying3 (hval 1 3 v1 rfl rfl) h1
  obtain ⟨a2, rfl, rfl, rfl, w2⟩ := open_int Try.underlying3 (hval 2 3 v2 rfl rfl) h2
  exact walk (W := W) (hval 0 23 v0 rfl rfl) h0 a1 w1 a2 w2
theorem fnOf (H : Type) : ∀ ds : List (DataW H), ds.length = Try.f6.params.toList.length → Rows.stripeAllSpec.fn H ds = { results := [.lit (.bool true)], args := ds } := by
  intro ds h
  have h : ds.length = 3 := h
  obtain _ | ⟨x0, ds⟩ := ds
  · simp at h
  obtain _ | ⟨x1, ds⟩ := ds
  · simp at h
  obtain _ | ⟨x2, ds⟩ := ds
  · simp at h
  obtain rfl : ds = [] := List.eq_nil_of_length_eq_zero (by simpa using h)
  rfl
set_option maxRecDepth 100000 in
theorem lifted (os : Os) (started : os.Started) (H : Type) (enc : TypeId × Value → H) :
    ReturnsInHanded {} Try.checked os 6 .any (Rows.stripeAllSpec.pre6 enc Try.prog Try.f6 Rows.stripeAllRow.domain false) (Rows.stripeAllSpec.post enc Try.prog Try.f6 false true false false) := by
  refine returnsInHanded_of_change (C := Try.checked) own started (by kernel_rfl) Try.func6
    (ChangeSpec.witness6 (enc := enc) (C := Try.checked) false ⟨#[], #[.agg #[.int .i64 0, .int .i64 0, .int .i64 0], .int .i64 0, .int .i64 0], []⟩ 8 (by kernel_rfl) (by kernel_rfl) (by kernel_rfl) (by kernel_rfl)) ?_
  intro W base args ds gs before hval hW _ _
  obtain ⟨p, q, hA, hV, rfl, hfz, hnd⟩ := id hW
  obtain ⟨rfl, rfl⟩ := trodVars_none hV
  exact Law.ending (C := Try.checked) (s := Rows.stripeAllSpec) laid pars rfl Try.underlying4 rfl (fnOf H) hW (calls H enc W base args ds p hval hA)
theorem over : Rows.stripeAllRow.holds Try.pinned (OpenSpec.ofChange Rows.stripeAllSpec) :=
  OpenClaim.holds_of_wide 6 Try.f6 rfl rfl rfl rfl rfl rfl rfl ⟨rfl, rfl, rfl, rfl, rfl⟩ rfl rfl rfl rfl rfl (by kernel_rfl) Try.func6 (by kernel_rfl)
    (of_decide_eq_true (by kernel_rfl)) (by unfold Func.isWrapper; first | (rw [if_pos (by decide +kernel)]; kernel_rfl) | (rw [if_neg (by decide +kernel)]; exact ⟨rfl, rfl⟩))
    (fun os started H enc _ => lifted os started H enc)
theorem proved : Rows.StripeAllSaid := over
end Go.Proofs.Ytlcbchpijijilaa.stripeAll
