/-
  StripeBack: for every layout and all integers at, object and from, the law StripeBack answers true (Where and Back are inverse to each other), and its arguments read afterwards as before. No condition.
-/
import Derived.Test.YtlcbchpijijilaaStAlive
import Derived.Test.YtlcbchpijijilaaStLay
namespace Go.Proofs.Ytlcbchpijijilaa.stripeBack
open Go.ChangeShapes Go.WideShapes Go.ChangeAt Go.RowKit
open Mem Stripe
set_option linter.unusedVariables false

def WhereGives (u w d a x y z : Int) : Prop := ∀ V, Calls Try.prog 9 #[.agg #[.int .i64 u, .int .i64 w, .int .i64 d], .int .i64 a] V (Gave (.tuple #[.int .i64 x, .int .i64 y, .int .i64 z]) V)
def BackGives (u w d a b x y : Int) : Prop := ∀ V, Calls Try.prog 10 #[.agg #[.int .i64 u, .int .i64 w, .int .i64 d], .int .i64 a, .int .i64 b] V (Gave (.tuple #[.int .i64 x, .int .i64 y]) V)
set_option maxRecDepth 100000 in
set_option maxHeartbeats 4000000 in
theorem main (u w d a o f : Int) (V : World)
    (h1 : (∃ k, k ≠ 0 ∧ WhereGives u w d a 0 0 k) ∨ ∃ p q x : Nat, u * d = (x : Int) ∧ x ≤ 1099511627776 ∧ q < x ∧ p ≤ 1099511627776 ∧ WhereGives u w d a p q 0 ∧ BackGives u w d p q a 0)
    (h2 : (∃ k p q r, k ≠ 0 ∧ BackGives u w d o f 0 k ∧ WhereGives u w d 0 p q r) ∨ ∃ b, BackGives u w d o f b 0 ∧ WhereGives u w d b o f 0) :
    Calls Try.prog 5 #[.agg #[.int .i64 u, .int .i64 w, .int .i64 d], .int .i64 a, .int .i64 o, .int .i64 f] V (Law.Yes V) := by
  rcases h1 with ⟨k, hk, hw⟩ | ⟨p, q, x, hx, hxb, hq, hpb, hw, hbk⟩
  · rcases h2 with ⟨k2, p2, q2, r2, hk2, hb2, hw2⟩ | ⟨b2, hb2, hw2⟩
    · have W1 := Lib.hid hw
      have n1 : (k == 0) = false := by simpa using hk
      have n2 : (k != 0) = true := by simpa using hk
      clear hw hk
      have n3 : (k2 == 0) = false := by simpa using hk2
      have n4 : (k2 != 0) = true := by simpa using hk2
      clear hk2
      have B2 := Lib.hid hb2
      have W2 := Lib.hid hw2
      clear hb2 hw2
      go_enter Try.func5, Try.ntmps5
      go_wp2_with fail
      refine (alive_c _).mono ?_
      rintro e w1 ⟨rfl, hb⟩
      obtain ⟨c0, c1, c2⟩ := box_cells hb
      have HB := Lib.hid hb
      clear hb
      go_wp2_with fail
      refine (W1.out _).mono ?_
      rintro e w2 ⟨rfl, hb⟩
      have hb' := HB.out.trans (hb.mono HB.out.size)
      obtain ⟨c0', c1', c2'⟩ := box_cells hb'
      have HB' := Lib.hid hb'
      clear hb hb' c0 c1 c2 HB
      go_wp2_with fail
      refine (B2.out _).mono ?_
      rintro e w3 ⟨rfl, hb⟩
      have hb' := HB'.out.trans (hb.mono HB'.out.size)
      obtain ⟨d0, d1, d2⟩ := box_cells hb'
      have H3 := Lib.hid hb'
      clear hb hb'
      go_wp2_with fail
      refine (W2.out _).mono ?_
      rintro e w4 ⟨rfl, hb⟩
      have H4 := Lib.hid (H3.out.trans (hb.mono H3.out.size))
      clear hb d0 d1 d2
      go_wp2
      go_ret
      exact ⟨rfl, below_box H4.out⟩
    · have W1 := Lib.hid hw
      have n1 : (k == 0) = false := by simpa using hk
      have n2 : (k != 0) = true := by simpa using hk
      clear hw hk
      have B2 := Lib.hid hb2
      have W2 := Lib.hid hw2
      clear hb2 hw2
      go_enter Try.func5, Try.ntmps5
      go_wp2_with fail
      refine (alive_c _).mono ?_
      rintro e w1 ⟨rfl, hb⟩
      obtain ⟨c0, c1, c2⟩ := box_cells hb
      have HB := Lib.hid hb
      clear hb
      go_wp2_with fail
      refine (W1.out _).mono ?_
      rintro e w2 ⟨rfl, hb⟩
      have hb' := HB.out.trans (hb.mono HB.out.size)
      obtain ⟨c0', c1', c2'⟩ := box_cells hb'
      have HB' := Lib.hid hb'
      clear hb hb' c0 c1 c2 HB
      go_wp2_with fail
      refine (B2.out _).mono ?_
      rintro e w3 ⟨rfl, hb⟩
      have hb' := HB'.out.trans (hb.mono HB'.out.size)
      obtain ⟨d0, d1, d2⟩ := box_cells hb'
      have H3 := Lib.hid hb'
      clear hb hb'
      go_wp2_with fail
      refine (W2.out _).mono ?_
      rintro e w4 ⟨rfl, hb⟩
      have H4 := Lib.hid (H3.out.trans (hb.mono H3.out.size))
      clear hb d0 d1 d2
      go_wp2
      go_ret
      exact ⟨rfl, below_box H4.out⟩
  · rcases h2 with ⟨k2, p2, q2, r2, hk2, hb2, hw2⟩ | ⟨b2, hb2, hw2⟩
    · have W1 := Lib.hid hw
      have C1 := Lib.hid hbk
      clear hw hbk
      have n3 : (k2 == 0) = false := by simpa using hk2
      have n4 : (k2 != 0) = true := by simpa using hk2
      clear hk2
      have B2 := Lib.hid hb2
      have W2 := Lib.hid hw2
      clear hb2 hw2
      go_enter Try.func5, Try.ntmps5
      go_wp2_with fail
      refine (alive_c _).mono ?_
      rintro e w1 ⟨rfl, hb⟩
      obtain ⟨c0, c1, c2⟩ := box_cells hb
      have HB := Lib.hid hb
      clear hb
      go_wp2_with fail
      refine (W1.out _).mono ?_
      rintro e w2 ⟨rfl, hb⟩
      have hb' := HB.out.trans (hb.mono HB.out.size)
      obtain ⟨c0', c1', c2'⟩ := box_cells hb'
      have HB' := Lib.hid hb'
      clear hb hb' c0 c1 c2 HB
      go_wp2_with fail
      refine (C1.out _).mono ?_
      rintro e w2 ⟨rfl, hb⟩
      have hb' := HB'.out.trans (hb.mono HB'.out.size)
      obtain ⟨e0, e1, e2⟩ := box_cells hb'
      have HC := Lib.hid hb'
      clear hb hb' c0' c1' c2' HB'
      have HB' := Lib.hid HC.out
      have i1 : (q : Int) < (x : Int) := by omega
      clear HC
      go_wp2_with fail
      refine (B2.out _).mono ?_
      rintro e w3 ⟨rfl, hb⟩
      have hb' := HB'.out.trans (hb.mono HB'.out.size)
      obtain ⟨d0, d1, d2⟩ := box_cells hb'
      have H3 := Lib.hid hb'
      clear hb hb'
      go_wp2_with fail
      refine (W2.out _).mono ?_
      rintro e w4 ⟨rfl, hb⟩
      have H4 := Lib.hid (H3.out.trans (hb.mono H3.out.size))
      clear hb d0 d1 d2
      go_wp2
      go_ret
      exact ⟨rfl, below_box H4.out⟩
    · have W1 := Lib.hid hw
      have C1 := Lib.hid hbk
      clear hw hbk
      have B2 := Lib.hid hb2
      have W2 := Lib.hid hw2
      clear hb2 hw2
      go_enter Try.func5, Try.ntmps5
      go_wp2_with fail
      refine (alive_c _).mono ?_
      rintro e w1 ⟨rfl, hb⟩
      obtain ⟨c0, c1, c2⟩ := box_cells hb
      have HB := Lib.hid hb
      clear hb
      go_wp2_with fail
      refine (W1.out _).mono ?_
      rintro e w2 ⟨rfl, hb⟩
      have hb' := HB.out.trans (hb.mono HB.out.size)
      obtain ⟨c0', c1', c2'⟩ := box_cells hb'
      have HB' := Lib.hid hb'
      clear hb hb' c0 c1 c2 HB
      go_wp2_with fail
      refine (C1.out _).mono ?_
      rintro e w2 ⟨rfl, hb⟩
      have hb' := HB'.out.trans (hb.mono HB'.out.size)
      obtain ⟨e0, e1, e2⟩ := box_cells hb'
      have HC := Lib.hid hb'
      clear hb hb' c0' c1' c2' HB'
      have HB' := Lib.hid HC.out
      have i1 : (q : Int) < (x : Int) := by omega
      clear HC
      go_wp2_with fail
      refine (B2.out _).mono ?_
      rintro e w3 ⟨rfl, hb⟩
      have hb' := HB'.out.trans (hb.mono HB'.out.size)
      obtain ⟨d0, d1, d2⟩ := box_cells hb'
      have H3 := Lib.hid hb'
      clear hb hb'
      go_wp2_with fail
      refine (W2.out _).mono ?_
      rintro e w4 ⟨rfl, hb⟩
      have H4 := Lib.hid (H3.out.trans (hb.mono H3.out.size))
      clear hb d0 d1 d2
      go_wp2
      go_ret
      exact ⟨rfl, below_box H4.out⟩
theorem obj_le (U W D n : Nat) : objOf U W D n ≤ n := by
  unfold objOf
  have h1 : n / U / W / D * W ≤ n / U / W * W := Nat.mul_le_mul_right _ (Nat.div_le_self _ _)
  have h2 := Nat.div_add_mod' (n / U) W
  have h3 : n / U ≤ n := Nat.div_le_self _ _
  omega
theorem words (u w d a o f : Int) (V : World) :
    Calls Try.prog 5 #[.agg #[.int .i64 u, .int .i64 w, .int .i64 d], .int .i64 a, .int .i64 o, .int .i64 f] V (Law.Yes V) := by
  by_cases h : OkZ u w d
  · obtain ⟨U, W, D, rfl, rfl, rfl, hok⟩ := h.n
    have hU := hok.1
    have hW := hok.2.1
    have hD := hok.2.2
    have k1 : U * D ≤ 1048576 * 1024 := mul_le (by omega) (by omega)
    have hwh : ∀ n : Nat, n ≤ 1099511627776 → WhereGives U W D n (objOf U W D n) (frOf U W D n) 0 := fun n hn V => where_ok U W D n V hok hn
    refine main _ _ _ _ _ _ V ?_ ?_
    · by_cases ha : 0 ≤ a ∧ a ≤ 1099511627776
      · obtain ⟨n, rfl⟩ : ∃ n : Nat, a = n := ⟨a.toNat, by omega⟩
        refine .inr ⟨objOf U W D n, frOf U W D n, U * D, muls, by omega, fr_lt hU.1 hD.1 n, by have := obj_le U W D n; omega, hwh n (by omega), fun V => ?_⟩
        have hb := back_in U W D (objOf U W D n) (frOf U W D n) V hok (by have := obj_le U W D n; omega) (fr_lt hU.1 hD.1 n)
        rw [bk_place hU.1 hW.1 hD.1, backIs, if_pos (by omega)] at hb
        exact hb
      · exact .inl ⟨2, by omega, fun V => where_range U W D a V hok ha⟩
    · have hz : ∃ p q r, WhereGives U W D 0 p q r := ⟨_, _, _, hwh 0 (by omega)⟩
      obtain ⟨p, q, r, hz⟩ := hz
      by_cases hr : (0 ≤ o ∧ o ≤ 1099511627776) ∧ 0 ≤ f ∧ f < (U * D : Nat)
      · obtain ⟨m, rfl⟩ : ∃ n : Nat, o = n := ⟨o.toNat, by omega⟩
        obtain ⟨n, rfl⟩ : ∃ n : Nat, f = n := ⟨f.toNat, by omega⟩
        have hb := fun V => back_in U W D m n V hok (by omega) (by omega)
        by_cases hbk : bk U W D m n ≤ 1099511627776
        · rw [backIs, if_pos hbk] at hb
          have hw := hwh (bk U W D m n) hbk
          have hp := place_bk (W := W) hU.1 hW.1 hD.1 (o := m) (f := n) (by omega)
          rw [hp.1, hp.2] at hw
          exact .inr ⟨_, hb, hw⟩
        · rw [backIs, if_neg hbk] at hb
          exact .inl ⟨3, p, q, r, by omega, hb, hz⟩
      · exact .inl ⟨2, p, q, r, by omega, fun V => back_range U W D o f V hok hr, hz⟩
  · exact main _ _ _ _ _ _ V (.inl ⟨1, by omega, fun V => where_form u w d a V h⟩) (.inl ⟨1, 0, 0, 1, by omega, fun V => back_form u w d o f V h, fun V => where_form u w d 0 V h⟩)
theorem walk {H : Type} {enc : TypeId × Value → H} {base : Nat} {W : World} {v0 : Value} {d0 : DataW H} {p0 : List MemPlace}
    (o0 : Value.okWide Try.prog W .any base 23 v0) (h0 : DataW.Trod enc Try.prog W 0 (fun _ => true) true 23 v0 d0 p0) (a1 : Int) (w1 : (Lit.int .i64 a1).wf = true) (a2 : Int) (w2 : (Lit.int .i64 a2).wf = true) (a3 : Int) (w3 : (Lit.int .i64 a3).wf = true) :
    Calls Try.prog 5 #[v0, .int .i64 a1, .int .i64 a2, .int .i64 a3] W (Law.Yes W) := by
  obtain ⟨u, w, z, rfl, _, _, _⟩ := open_layout o0 h0
  exact words u w z a1 a2 a3 W
theorem own : ownKnob Try.prog.godebug = none := by kernel_rfl
theorem laid : laidOutB Try.prog = true := by kernel_rfl
theorem pars : ∀ t ∈ Try.f5.params.toList, Try.prog.readableRec t = true ∧ t < Try.prog.types.size := by
  have h : Try.f5.params.toList.all (fun t => Try.prog.readableRec t && decide (t < Try.prog.types.size)) = true := by kernel_rfl
  intro t ht; have := List.all_eq_true.1 h t ht; simpa using this
theorem calls (H : Type) (enc : TypeId × Value → H) (W : World) (base : Nat) (args : Array Value) (ds : List (DataW H)) (before : List MemPlace)
    (hval : ∀ (j : Nat) t v, Try.f5.params[j]? = some t → args[j]? = some v → Value.okWide Try.prog W .any base t v)
    (hA : DataW.TrodAll enc Try.prog W 0 (fun _ => true) true Try.f5.params.toList args.toList ds before) :
    Calls Try.prog 5 args W (Law.Yes W) := by
  rw [Try.params5] at hA hval
  obtain ⟨v0, vs0, d0, ds0, p0, q0, hargs, rfl, rfl, h0, r0⟩ := trodAll_cons hA
  obtain ⟨v1, vs1, d1, ds1, p1, q1, rfl, rfl, rfl, h1, r1⟩ := trodAll_cons r0
  obtain ⟨v2, vs2, d2, ds2, p2, q2, rfl, rfl, rfl, h2, r2⟩ := trodAll_cons r1
  obtain ⟨v3, vs3, d3, ds3, p3, q3, rfl, rfl, rfl, h3, r3⟩ := trodAll_cons r2
  obtain ⟨rfl, rfl, rfl⟩ := trodAll_nil r3
  obtain rfl : args = #[v0, v1, v2, v3] := by cases args; simp_all
  obtain ⟨a1, rfl, rfl, rfl, w1⟩ := open_int Try.underlying3 (hval 1 3 v1 rfl rfl) h1
  obtain ⟨a2, rfl, rfl, rfl, w2⟩ := open_int Try.underlying3 (hval 2 3 v2 rfl rfl) h2
  obtain ⟨a3, rfl, rfl, rfl, w3⟩ := open_int Try.underlying3 (hval 3 3 v3 rfl rfl) h3
  exact walk (W := W) (hval 0 23 v0 rfl rfl) h0 a1 w1 a2 w2 a3 w3
theorem fnOf (H : Type) : ∀ ds : List (DataW H), ds.length = Try.f5.params.toList.length → Rows.stripeBackSpec.fn H ds = { results := [.lit (.bool true)], args := ds } := by
  intro ds h
  have h : ds.length = 4 := h
  obtain _ | ⟨x0, ds⟩ := ds
  · simp at h
  obtain _ | ⟨x1, ds⟩ := ds
  · simp at h
  obtain _ | ⟨x2, ds⟩ := ds
  · simp at h
  obtain _ | ⟨x3, ds⟩ := ds
  · simp at h
  obtain rfl : ds = [] := List.eq_nil_of_length_eq_zero (by simpa using h)
  rfl
set_option maxRecDepth 100000 in
theorem lifted (os : Os) (started : os.Started) (H : Type) (enc : TypeId × Value → H) :
    ReturnsInHanded {} Try.checked os 5 .any (Rows.stripeBackSpec.pre6 enc Try.prog Try.f5 Rows.stripeBackRow.domain false) (Rows.stripeBackSpec.post enc Try.prog Try.f5 false true false false) := by
  refine returnsInHanded_of_change (C := Try.checked) own started (by kernel_rfl) Try.func5
    (ChangeSpec.witness6 (enc := enc) (C := Try.checked) false ⟨#[], #[.agg #[.int .i64 0, .int .i64 0, .int .i64 0], .int .i64 0, .int .i64 0, .int .i64 0], []⟩ 8 (by kernel_rfl) (by kernel_rfl) (by kernel_rfl) (by kernel_rfl)) ?_
  intro W base args ds gs before hval hW _ _
  obtain ⟨p, q, hA, hV, rfl, hfz, hnd⟩ := id hW
  obtain ⟨rfl, rfl⟩ := trodVars_none hV
  exact Law.ending (C := Try.checked) (s := Rows.stripeBackSpec) laid pars rfl Try.underlying4 rfl (fnOf H) hW (calls H enc W base args ds p hval hA)
theorem over : Rows.stripeBackRow.holds Try.pinned (OpenSpec.ofChange Rows.stripeBackSpec) :=
  OpenClaim.holds_of_wide 5 Try.f5 rfl rfl rfl rfl rfl rfl rfl ⟨rfl, rfl, rfl, rfl, rfl⟩ rfl rfl rfl rfl rfl (by kernel_rfl) Try.func5 (by kernel_rfl)
    (of_decide_eq_true (by kernel_rfl)) (by unfold Func.isWrapper; first | (rw [if_pos (by decide +kernel)]; kernel_rfl) | (rw [if_neg (by decide +kernel)]; exact ⟨rfl, rfl⟩))
    (fun os started H enc _ => lifted os started H enc)
theorem proved : Rows.StripeBackSaid := over
end Go.Proofs.Ytlcbchpijijilaa.stripeBack
