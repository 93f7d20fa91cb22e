/-
  The document's own extents: FSplit.
-/
import Derived.Test.YtlcbchpijijilaaStRef
import Derived.Test.YtlcbchpijijilaaStC
namespace Go.Proofs.Ytlcbchpijijilaa.Stripe
set_option linter.unusedVariables false
open Go.RowKit Mem

theorem good_bnd {U W D n m : Nat} {s : List Ex} (h : Ok U W D) (hm : m ≤ 1099511627776) (G : Stripe.Good (objOf U W D) (frOf U W D) n m s) {e : Ex} (he : e ∈ s) : e.2.1 + e.2.2 ≤ 2199023255552 := by
  obtain ⟨j, hj, rfl⟩ := List.mem_iff_getElem.1 he
  obtain ⟨hU, hW, hD⟩ := h
  obtain ⟨g1, g2, _⟩ := G.2 j _ (List.getElem?_eq_getElem hj)
  have g3 := g2 0 (by omega)
  have k1 : U * D ≤ 1048576 * 1024 := mul_le (by omega) (by omega)
  have g4 := fr_lt (W := W) hU.1 hD.1 (n + tot (s.take j) + 0)
  have g5 : tot (s.take j) + s[j].2.2 ≤ m := by
    have h := G.1
    rw [← List.take_append_drop (j + 1) s, tot_app, List.take_succ_eq_append_getElem hj, tot_app, tot_one] at h
    omega
  rw [g3.2] at g4
  omega
set_option maxRecDepth 100000 in
set_option maxHeartbeats 8000000 in
theorem fsplit_c (U W D n m : Nat) (V : World) (h : Ok U W D) (h1 : n + m ≤ 1099511627776) :
    Calls Try.prog 19 #[.agg #[.int .i64 U, .int .i64 W, .int .i64 D], .int .i64 n, .int .i64 m] V fun e W' => ∃ A c, e = .returned (.slice A (exts U W D n m).length c) ∧ ETab W' V.heap.size (.slice A (exts U W D n m).length c) (exts U W D n m) ∧ Below V.heap.size V W' := by
  have HW := Lib.hid (fun x (hx : x ≤ 1099511627776) V => fwhere_c U W D x V h hx)
  have E0 := Lib.hid (show exts U W D n m = grow (objOf U W D) (frOf U W D) n m from rfl)
  have GL := Lib.hid (fun k => @grow_len (objOf U W D) (frOf U W D) n k)
  have GD := Lib.hid (fun k (hk : k ≤ m) e (he : e ∈ grow (objOf U W D) (frOf U W D) n k) => good_bnd h (by omega) (grow_good n k) he)
  have FB := Lib.hid (fun n => show frOf U W D n < 1048576 * 1024 + 1 by
    obtain ⟨hU, hW, hD⟩ := h
    have k1 : U * D ≤ 1048576 * 1024 := mul_le (by omega) (by omega)
    have := fr_lt (W := W) hU.1 hD.1 n
    omega)
  have K := Lib.hid (Below.refl (V.alloc (.cells #[.int .i64 U, .int .i64 W, .int .i64 D] 23)).heap.size (V.alloc (.cells #[.int .i64 U, .int .i64 W, .int .i64 D] 23)))
  clear h
  go_enter Try.func19, Try.ntmps19
  go_wp2
  go_loopw [7, 13] (fun s7 i wr => ∃ (k : Nat) (A : Option Addr) (c : Nat), k ≤ m ∧ i = .int .i64 k ∧ s7 = .slice A (grow (objOf U W D) (frOf U W D) n k).length c ∧ ETab wr (V.heap.size + 1) s7 (grow (objOf U W D) (frOf U W D) n k) ∧ Below (V.alloc (.cells #[.int .i64 U, .int .i64 W, .int .i64 D] 23)).heap.size (V.alloc (.cells #[.int .i64 U, .int .i64 W, .int .i64 D] 23)) wr) (fun _ i _ => m - (intOf i).toNat)
  case atStart => exact ⟨0, none, 0, by omega, rfl, rfl, ETab.nil _ _, K.out⟩
  case round =>
    obtain ⟨k, A, c, hk, rfl, rfl, hT, hB⟩ := hrel
    have KB := Lib.hid hB
    have KT := Lib.hid hT
    clear hT hB
    by_cases hlt : k < m
    · obtain ⟨c0, c1, c2⟩ := box_cells KB.out
      have H4 := Lib.hid (HW.out (n + k) (by omega))
      have ST := Lib.hid (show grow (objOf U W D) (frOf U W D) n (k + 1) = join (grow (objOf U W D) (frOf U W D) n k) [(objOf U W D (n + k), frOf U W D (n + k), 1)] from rfl)
      have i1 : (k : Int) < (m : Int) := by omega
      have gl := GL.out k
      have gd := GD.out k hk
      have fb := FB.out
      generalize hes : grow (objOf U W D) (frOf U W D) n k = es at *
      generalize hob : objOf U W D (n + k) = ob at *
      generalize hfr : frOf U W D (n + k) = fr at *
      rw [Int.natCast_add] at H4
      clear hes hob hfr
      rcases List.eq_nil_or_concat es with rfl | ⟨xs, ⟨p0, p1, p2⟩, rfl⟩
      · rw [join_nil] at ST
        clear gd fb
        have e0 : ([] : List Ex).length = 0 := rfl
        rw [e0] at KT ⊢
        clear e0 gl
        go_wp2_with fail
        refine (H4.out _).mono ?_
        rintro e w3 ⟨rfl, hb3⟩
        have KB3 := Lib.hid (KB.out.trans (hb3.mono KB.out.size))
        have KT3 := Lib.hid (KT.out.later hb3)
        have KS3 := Lib.hid (show V.heap.size + 1 ≤ w3.heap.size by have := KB3.out.size; simpa using this)
        have d0 : decide ((0 : Int) < 0) = false := by decide
        clear hb3 c0 c1 c2
        go_wp2
        go_quiet (fail)
        go_wp2_with (at_builtin; refine wpList_append_ex1 (e1 := ob) (e2 := fr) (es := []) (n := 0) rfl (.tmp 64) (.tmp 68) rfl rfl rfl (KT3.out.later (((Drawn.refl w3).more nq).below _)) rfl (by omega) KS3.out (below_drewN KB3.out nq) (by simp) ?_; intro A4 c4 w4 hT4 hB4)
        have HT4 := Lib.hid hT4.out
        have HB4 := Lib.hid hB4.out
        clear hT4 hB4
        go_wp2
        go_roundw
        case rel => exact ⟨k + 1, A4, c4, by omega, by go_num, by rw [ST.out]; rfl, by rw [ST.out]; exact HT4.out, HB4.out⟩
        case measure => simp [intOf]; omega
      · rw [List.concat_eq_append] at KT ST gl gd ⊢
        rw [join_snoc] at ST
        have pb : p1 + p2 ≤ 2199023255552 := gd (p0, p1, p2) (by simp)
        have hl : (xs ++ [(p0, p1, p2)]).length = xs.length + 1 := by simp
        rw [hl] at KT gl ⊢
        generalize hj : xs.length = j at *
        have HJ := Lib.hid hj
        have HL := Lib.hid hl
        clear gd fb hj hl
        have x1 : IntKind.i64.wrap (((j + 1 : Nat) : Int) - 1) = (j : Int) := by rw [IntWalk.i64_in _ (by omega)]; omega
        have x2 : IntKind.i64.wrap ((j : Int) + 1 - 1) = (j : Int) := by rw [IntWalk.i64_in _ (by omega)]; omega
        have x3 : IntKind.i64.wrap ((p1 : Int) + (p2 : Int)) = (p1 : Int) + (p2 : Int) := IntWalk.i64_in _ (by omega)
        have d5 : decide ((0 : Int) < (j : Int) + 1) = true := by rw [decide_eq_true_iff]; omega
        have HL2 : Hid ((xs ++ [(p0, p1, p2)]).length = j + 1) := Lib.hid (by simp [HJ.out])
        clear HL
        cases hme : meets (p0, p1, p2) (ob, fr, 1) with
        | true =>
          rw [hme, if_pos rfl] at ST
          unfold meets at hme
          simp only [Bool.and_eq_true, beq_iff_eq] at hme
          obtain ⟨rfl, m3⟩ := hme
          have n2 : ((p1 : Int) + (p2 : Int) == (fr : Int)) = true := by rw [beq_iff_eq]; omega
          clear m3
          go_wp2_with fail
          refine (H4.out _).mono ?_
          rintro e w3 ⟨rfl, hb3⟩
          have KB3 := Lib.hid (KB.out.trans (hb3.mono KB.out.size))
          have KT3 := Lib.hid (KT.out.later hb3)
          have KS3 := Lib.hid (show V.heap.size + 1 ≤ w3.heap.size by have := KB3.out.size; simpa using this)
          obtain ⟨g, rfl, -, gb, -⟩ := KT3.out.head (by simp)
          obtain ⟨b, o, e, -, y0, y1, y2⟩ := KT3.out.rds j (p0, p1, p2) (by rw [← HJ.out, List.getElem?_append_right (Nat.le_refl _), Nat.sub_self]; rfl)
          injection e with e
          injection e with e3 e4
          subst e3 e4
          rw [Nat.zero_add] at y0 y1 y2
          clear hb3 c0 c1 c2
          have fx : w3.frozen? ⟨g, j * 3 + 2, none⟩ = false := KT3.out.free HL2.out.symm _
          go_wp2
          go_quiet (fail)
          have KT4 := (KT3.out.later (((Drawn.refl w3).more nq).below _)).grow (by rw [HJ.out]) (p2 + 1)
          rw [HJ.out] at KT4
          have HT4 := Lib.hid KT4
          have HB4 := Lib.hid ((below_drewN KB3.out nq).setCell (p := ⟨g, j * 3 + 2, none⟩) (by show _ ≤ g; simpa using gb) (.int .i64 ((p2 + 1 : Nat) : Int)))
          clear KT4
          go_wp2
          go_roundw
          case rel => exact ⟨k + 1, some ⟨g, 0, none⟩, c, by omega, by go_num, by rw [ST.out]; simp [HJ.out], by rw [ST.out]; exact HT4.out, HB4.out⟩
          case measure => simp [intOf]; omega
        | false =>
          rw [hme, if_neg (by simp)] at ST
          have hme : (p0 == ob && p1 + p2 == fr) = false := hme
          by_cases e : p0 = ob
          · subst e
            have n2 : ((p1 : Int) + (p2 : Int) == (fr : Int)) = false := by
              rw [beq_self_eq_true, Bool.true_and, beq_eq_false_iff_ne] at hme
              rw [beq_eq_false_iff_ne]; omega
            clear hme
            go_wp2_with fail
            refine (H4.out _).mono ?_
            rintro e w3 ⟨rfl, hb3⟩
            have KB3 := Lib.hid (KB.out.trans (hb3.mono KB.out.size))
            have KT3 := Lib.hid (KT.out.later hb3)
            have KS3 := Lib.hid (show V.heap.size + 1 ≤ w3.heap.size by have := KB3.out.size; simpa using this)
            obtain ⟨g, rfl, -, gb, -⟩ := KT3.out.head (by simp)
            obtain ⟨b, o, e, -, y0, y1, y2⟩ := KT3.out.rds j (p0, p1, p2) (by rw [← HJ.out, List.getElem?_append_right (Nat.le_refl _), Nat.sub_self]; rfl)
            injection e with e
            injection e with e3 e4
            subst e3 e4
            rw [Nat.zero_add] at y0 y1 y2
            clear hb3 c0 c1 c2
            go_wp2
            go_quiet (fail)
            go_wp2_with (at_builtin; refine wpList_append_ex1 (e1 := p0) (e2 := fr) (es := xs ++ [(p0, p1, p2)]) (n := j + 1) rfl (.tmp 64) (.tmp 68) rfl rfl rfl (KT3.out.later (((Drawn.refl w3).more nq).below _)) HL2.out (by omega) KS3.out (below_drewN KB3.out nq) (by simp) ?_; intro A4 c4 w4 hT4 hB4)
            have HT4 := Lib.hid hT4.out
            have HB4 := Lib.hid hB4.out
            clear hT4 hB4
            go_wp2
            go_roundw
            case rel => exact ⟨k + 1, A4, c4, by omega, by go_num, by rw [ST.out]; simp [HJ.out], by rw [ST.out]; simpa using HT4.out, HB4.out⟩
            case measure => simp [intOf]; omega
          · have n2 : ((p0 : Int) == (ob : Int)) = false := by rw [beq_eq_false_iff_ne]; omega
            clear hme e
            go_wp2_with fail
            refine (H4.out _).mono ?_
            rintro e w3 ⟨rfl, hb3⟩
            have KB3 := Lib.hid (KB.out.trans (hb3.mono KB.out.size))
            have KT3 := Lib.hid (KT.out.later hb3)
            have KS3 := Lib.hid (show V.heap.size + 1 ≤ w3.heap.size by have := KB3.out.size; simpa using this)
            obtain ⟨g, rfl, -, gb, -⟩ := KT3.out.head (by simp)
            obtain ⟨b, o, e, -, y0, y1, y2⟩ := KT3.out.rds j (p0, p1, p2) (by rw [← HJ.out, List.getElem?_append_right (Nat.le_refl _), Nat.sub_self]; rfl)
            injection e with e
            injection e with e3 e4
            subst e3 e4
            rw [Nat.zero_add] at y0 y1 y2
            clear hb3 c0 c1 c2
            go_wp2
            go_quiet (fail)
            go_wp2_with (at_builtin; refine wpList_append_ex1 (e1 := ob) (e2 := fr) (es := xs ++ [(p0, p1, p2)]) (n := j + 1) rfl (.tmp 64) (.tmp 68) rfl rfl rfl (KT3.out.later (((Drawn.refl w3).more nq).below _)) HL2.out (by omega) KS3.out (below_drewN KB3.out nq) (by simp) ?_; intro A4 c4 w4 hT4 hB4)
            have HT4 := Lib.hid hT4.out
            have HB4 := Lib.hid hB4.out
            clear hT4 hB4
            go_wp2
            go_roundw
            case rel => exact ⟨k + 1, A4, c4, by omega, by go_num, by rw [ST.out]; simp [HJ.out], by rw [ST.out]; simpa using HT4.out, HB4.out⟩
            case measure => simp [intOf]; omega
    · obtain rfl : k = m := by omega
      rw [← E0.out] at KT ⊢
      generalize hz : exts U W D n k = z at *
      have KL := KT.out.form
      generalize hn : z.length = l at *
      have HN := Lib.hid hn
      have HZ := Lib.hid hz
      clear hn hz KL
      go_wp2
      go_ret
      have hn := HN.out
      subst hn
      exact ⟨A, c, by rw [HZ.out]; rfl, by rw [HZ.out]; exact KT.out.down (Nat.le_succ _), below_box KB.out⟩
end Go.Proofs.Ytlcbchpijijilaa.Stripe
