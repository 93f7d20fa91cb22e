/-
  StripeWhere: for every layout and all integers at, object and from, the law StripeWhere answers true (Right, Where and Back answer what the document says), and its arguments read afterwards as before. No condition.
-/
import Derived.Test.YtlcbchpijijilaaStRef
import Derived.Test.YtlcbchpijijilaaStFBack
import Derived.Test.YtlcbchpijijilaaStLay
import Derived.Test.YtlcbchpijijilaaLaw
import Derived.Deep.RegionHeld3
namespace Go.Proofs.Ytlcbchpijijilaa.stripeWhere
open Go.ChangeShapes Go.WideShapes Go.ChangeAt Go.RowKit
open Mem Stripe
set_option linter.unusedVariables false

set_option maxRecDepth 100000 in
set_option maxHeartbeats 4000000 in
theorem form (u w d a o f : Int) (V : World) (h : ¬ OkZ u w d) :
    Calls Try.prog 3 #[.agg #[.int .i64 u, .int .i64 w, .int .i64 d], .int .i64 a, .int .i64 o, .int .i64 f] V (Law.Yes V) := by
  have HW := Lib.hid (fun V => where_form u w d a V h)
  have HK := Lib.hid (fun V => back_form u w d o f V h)
  have HR := Lib.hid (fun V => right_no u w d V h)
  have HF := Lib.hid (fun V => fright_no u w d V h)
  clear h
  go_enter Try.func3, Try.ntmps3
  go_wp2_with fail
  refine (HW.out _).mono ?_
  rintro e w1 ⟨rfl, hb⟩
  obtain ⟨c0, c1, c2⟩ := box_cells hb
  have HB1 := Lib.hid hb
  clear hb
  go_wp2_with fail
  refine (HK.out _).mono ?_
  rintro e w2 ⟨rfl, hb⟩
  have hb' := HB1.out.trans (hb.mono HB1.out.size)
  obtain ⟨d0, d1, d2⟩ := box_cells hb'
  have KD := Lib.hid (below_drew hb')
  clear hb hb' c0 c1 c2 HB1
  go_upto_region 3 with fail
  go_cut [35] (fun v wx => v = .bool false ∧ Below (V.alloc (.cells #[.int .i64 u, .int .i64 w, .int .i64 d] 23)).heap.size (V.alloc (.cells #[.int .i64 u, .int .i64 w, .int .i64 d] 23)) wx)
  case first =>
    go_region_held3 (fun w' => w'.cell? ⟨V.heap.size, 0, none⟩ = some (.int .i64 u) ∧ w'.cell? ⟨V.heap.size, 1, none⟩ = some (.int .i64 w) ∧ w'.cell? ⟨V.heap.size, 2, none⟩ = some (.int .i64 d)) (first | go_keep | exact box_cells K2.out | exact box_cells K1.out)
      (first
        | (go_at_call 11; refine (HR.out _).mono ?_; rintro e w3 ⟨rfl, hb⟩; first | have K2 := Lib.hid (K1.out.trans (hb.mono K1.out.size)) | have K1 := Lib.hid (KD.out.trans (hb.mono KD.out.size)))
        | (go_at_call 12; refine (HF.out _).mono ?_; rintro e w3 ⟨rfl, hb⟩; first | have K2 := Lib.hid (K1.out.trans (hb.mono K1.out.size)) | have K1 := Lib.hid (KD.out.trans (hb.mono KD.out.size))))
    all_goals go_wp2_with fail
    all_goals go_meet
    all_goals exact ⟨rfl, K2.out⟩
  case rest =>
    obtain ⟨rfl, hb⟩ := hcut
    obtain ⟨e0, e1, e2⟩ := box_cells hb
    have HB3 := Lib.hid hb
    clear hb d0 d1 d2 KD HW HK HR
    go_wp2_with fail
    refine (HF.out _).mono ?_
    rintro e w4 ⟨rfl, hb⟩
    have HB4 := Lib.hid (HB3.out.trans (hb.mono HB3.out.size))
    clear hb e0 e1 e2
    go_wp2
    go_ret
    exact ⟨rfl, below_box HB4.out⟩
def WhereGives (u w d a x y z : Int) : Prop := ∀ V, Calls Try.prog 9 #[.agg #[.int .i64 u, .int .i64 w, .int .i64 d], .int .i64 a] V (Gave (.tuple #[.int .i64 x, .int .i64 y, .int .i64 z]) V)
def FWhereGives (u w d a x y : Int) : Prop := ∀ V, Calls Try.prog 13 #[.agg #[.int .i64 u, .int .i64 w, .int .i64 d], .int .i64 a] V (Gave (.tuple #[.int .i64 x, .int .i64 y]) V)
def BackGives (u w d a b x y : Int) : Prop := ∀ V, Calls Try.prog 10 #[.agg #[.int .i64 u, .int .i64 w, .int .i64 d], .int .i64 a, .int .i64 b] V (Gave (.tuple #[.int .i64 x, .int .i64 y]) V)
def FBackGives (u w d a b x : Int) : Prop := ∀ V, Calls Try.prog 14 #[.agg #[.int .i64 u, .int .i64 w, .int .i64 d], .int .i64 a, .int .i64 b] V (Gave (.int .i64 x) V)
set_option maxRecDepth 100000 in
set_option maxHeartbeats 8000000 in
theorem main (u w d a o f X Y E B G : Int) (x : Nat) (V : World) (hok : OkZ u w d) (p1 : u * d = (x : Int)) (hx : x ≤ 1073741824) (hw : WhereGives u w d a X Y E) (hk : BackGives u w d o f B G)
    (hA : (E = 2 ∧ X = 0 ∧ Y = 0 ∧ (a < 0 ∨ 1099511627776 < a)) ∨ (E = 0 ∧ 0 ≤ a ∧ a ≤ 1099511627776 ∧ FWhereGives u w d a X Y))
    (hB : (G = 2 ∧ B = 0 ∧ (o < 0 ∨ 1099511627776 < o ∨ f < 0 ∨ (x : Int) ≤ f)) ∨ ((0 ≤ o ∧ o ≤ 1099511627776 ∧ 0 ≤ f ∧ f < (x : Int)) ∧ ((G = 0 ∧ 0 ≤ B ∧ FBackGives u w d o f B) ∨ (G = 3 ∧ B = 0 ∧ FBackGives u w d o f (-1))))) :
    Calls Try.prog 3 #[.agg #[.int .i64 u, .int .i64 w, .int .i64 d], .int .i64 a, .int .i64 o, .int .i64 f] V (Law.Yes V) := by
  have HW := Lib.hid hw
  have HK := Lib.hid hk
  have HR := Lib.hid (fun V => right_yes u w d V hok)
  have HF := Lib.hid (fun V => fright_yes u w d V hok)
  have HA := Lib.hid hA
  have HB := Lib.hid hB
  clear hok hw hk hA hB
  go_enter Try.func3, Try.ntmps3
  go_wp2_with fail
  refine (HW.out _).mono ?_
  rintro e w1 ⟨rfl, hb⟩
  obtain ⟨c0, c1, c2⟩ := box_cells hb
  have HB1 := Lib.hid hb
  clear hb
  go_wp2_with fail
  refine (HK.out _).mono ?_
  rintro e w2 ⟨rfl, hb⟩
  have hb' := HB1.out.trans (hb.mono HB1.out.size)
  obtain ⟨d0, d1, d2⟩ := box_cells hb'
  have KD := Lib.hid (below_drew hb')
  clear hb hb' c0 c1 c2 HB1
  go_upto_region 3 with fail
  go_cut [35] (fun v wx => v = .bool false ∧ Below (V.alloc (.cells #[.int .i64 u, .int .i64 w, .int .i64 d] 23)).heap.size (V.alloc (.cells #[.int .i64 u, .int .i64 w, .int .i64 d] 23)) wx)
  case first =>
    go_region_held3 (fun w' => w'.cell? ⟨V.heap.size, 0, none⟩ = some (.int .i64 u) ∧ w'.cell? ⟨V.heap.size, 1, none⟩ = some (.int .i64 w) ∧ w'.cell? ⟨V.heap.size, 2, none⟩ = some (.int .i64 d)) (first | go_keep | exact box_cells K2.out | exact box_cells K1.out)
      (first
        | (go_at_call 11; refine (HR.out _).mono ?_; rintro e w3 ⟨rfl, hb⟩; first | have K2 := Lib.hid (K1.out.trans (hb.mono K1.out.size)) | have K1 := Lib.hid (KD.out.trans (hb.mono KD.out.size)))
        | (go_at_call 12; refine (HF.out _).mono ?_; rintro e w3 ⟨rfl, hb⟩; first | have K2 := Lib.hid (K1.out.trans (hb.mono K1.out.size)) | have K1 := Lib.hid (KD.out.trans (hb.mono KD.out.size))))
    all_goals go_wp2_with fail
    all_goals go_meet
    all_goals exact ⟨rfl, K2.out⟩
  case rest =>
    obtain ⟨rfl, hb⟩ := hcut
    obtain ⟨e0, e1, e2⟩ := box_cells hb
    have HB3 := Lib.hid hb
    clear hb d0 d1 d2 KD HW HK HR
    go_wp2_with fail
    refine (HF.out _).mono ?_
    rintro e w4 ⟨rfl, hb⟩
    have hb' := HB3.out.trans (hb.mono HB3.out.size)
    obtain ⟨f0, f1, f2⟩ := box_cells hb'
    have HB4 := Lib.hid hb'
    clear hb hb' e0 e1 e2 HB3 HF
    rcases HA.out with ⟨rfl, rfl, rfl, ha⟩ | ⟨rfl, ha1, ha2, hf⟩
    · clear HA
      by_cases h1 : a < 0
      · clear ha
        rcases HB.out with ⟨rfl, rfl, hb⟩ | ⟨⟨j1, j2, j3, j4⟩, ⟨rfl, hB0, hf⟩ | ⟨rfl, rfl, hf⟩⟩
        · clear HB
          by_cases k1 : o < 0
          · clear hb
            go_wp2
            go_ret
            exact ⟨rfl, below_box HB4.out⟩
          by_cases k2 : 1099511627776 < o
          · clear hb
            go_wp2
            go_ret
            exact ⟨rfl, below_box HB4.out⟩
          by_cases k3 : f < 0
          · clear hb
            go_wp2
            go_ret
            exact ⟨rfl, below_box HB4.out⟩
          · have k4 : (x : Int) ≤ f := by omega
            clear hb
            go_wp2
            go_ret
            exact ⟨rfl, below_box HB4.out⟩
        · have FK := Lib.hid hf
          have k1 : ¬ (x : Int) ≤ f := by omega
          clear hf HB
          go_wp2_with fail
          refine (FK.out _).mono ?_
          rintro e w6 ⟨rfl, hb⟩
          have HB6 := Lib.hid (HB4.out.trans (hb.mono HB4.out.size))
          clear hb
          go_wp2
          go_ret
          exact ⟨rfl, below_box HB6.out⟩
        · have FK := Lib.hid hf
          have k1 : ¬ (x : Int) ≤ f := by omega
          clear hf HB
          go_wp2_with fail
          refine (FK.out _).mono ?_
          rintro e w6 ⟨rfl, hb⟩
          have HB6 := Lib.hid (HB4.out.trans (hb.mono HB4.out.size))
          clear hb
          go_wp2
          go_ret
          exact ⟨rfl, below_box HB6.out⟩
      · have h2 : 1099511627776 < a := by omega
        clear ha
        rcases HB.out with ⟨rfl, rfl, hb⟩ | ⟨⟨j1, j2, j3, j4⟩, ⟨rfl, hB0, hf⟩ | ⟨rfl, rfl, hf⟩⟩
        · clear HB
          by_cases k1 : o < 0
          · clear hb
            go_wp2
            go_ret
            exact ⟨rfl, below_box HB4.out⟩
          by_cases k2 : 1099511627776 < o
          · clear hb
            go_wp2
            go_ret
            exact ⟨rfl, below_box HB4.out⟩
          by_cases k3 : f < 0
          · clear hb
            go_wp2
            go_ret
            exact ⟨rfl, below_box HB4.out⟩
          · have k4 : (x : Int) ≤ f := by omega
            clear hb
            go_wp2
            go_ret
            exact ⟨rfl, below_box HB4.out⟩
        · have FK := Lib.hid hf
          have k1 : ¬ (x : Int) ≤ f := by omega
          clear hf HB
          go_wp2_with fail
          refine (FK.out _).mono ?_
          rintro e w6 ⟨rfl, hb⟩
          have HB6 := Lib.hid (HB4.out.trans (hb.mono HB4.out.size))
          clear hb
          go_wp2
          go_ret
          exact ⟨rfl, below_box HB6.out⟩
        · have FK := Lib.hid hf
          have k1 : ¬ (x : Int) ≤ f := by omega
          clear hf HB
          go_wp2_with fail
          refine (FK.out _).mono ?_
          rintro e w6 ⟨rfl, hb⟩
          have HB6 := Lib.hid (HB4.out.trans (hb.mono HB4.out.size))
          clear hb
          go_wp2
          go_ret
          exact ⟨rfl, below_box HB6.out⟩
    · have FW := Lib.hid hf
      have h1 : ¬ a < 0 := by omega
      clear hf HA
      go_wp2_with fail
      refine (FW.out _).mono ?_
      rintro e w5 ⟨rfl, hb⟩
      have hb' := HB4.out.trans (hb.mono HB4.out.size)
      obtain ⟨g0, g1, g2⟩ := box_cells hb'
      have HB5 := Lib.hid hb'
      clear hb hb' f0 f1 f2
      rcases HB.out with ⟨rfl, rfl, hb⟩ | ⟨⟨j1, j2, j3, j4⟩, ⟨rfl, hB0, hf⟩ | ⟨rfl, rfl, hf⟩⟩
      · clear HB
        by_cases k1 : o < 0
        · clear hb
          go_wp2
          go_ret
          exact ⟨rfl, below_box HB5.out⟩
        by_cases k2 : 1099511627776 < o
        · clear hb
          go_wp2
          go_ret
          exact ⟨rfl, below_box HB5.out⟩
        by_cases k3 : f < 0
        · clear hb
          go_wp2
          go_ret
          exact ⟨rfl, below_box HB5.out⟩
        · have k4 : (x : Int) ≤ f := by omega
          clear hb
          go_wp2
          go_ret
          exact ⟨rfl, below_box HB5.out⟩
      · have FK := Lib.hid hf
        have k1 : ¬ (x : Int) ≤ f := by omega
        clear hf HB
        go_wp2_with fail
        refine (FK.out _).mono ?_
        rintro e w6 ⟨rfl, hb⟩
        have HB6 := Lib.hid (HB5.out.trans (hb.mono HB5.out.size))
        clear hb
        go_wp2
        go_ret
        exact ⟨rfl, below_box HB6.out⟩
      · have FK := Lib.hid hf
        have k1 : ¬ (x : Int) ≤ f := by omega
        clear hf HB
        go_wp2_with fail
        refine (FK.out _).mono ?_
        rintro e w6 ⟨rfl, hb⟩
        have HB6 := Lib.hid (HB5.out.trans (hb.mono HB5.out.size))
        clear hb
        go_wp2
        go_ret
        exact ⟨rfl, below_box HB6.out⟩
theorem words (u w d a o f : Int) (V : World) :
    Calls Try.prog 3 #[.agg #[.int .i64 u, .int .i64 w, .int .i64 d], .int .i64 a, .int .i64 o, .int .i64 f] V (Law.Yes V) := by
  by_cases h : OkZ u w d
  · obtain ⟨U, W, D, rfl, rfl, rfl, hok⟩ := h.n
    have hU := hok.1
    have hD := hok.2.2
    have k1 : U * D ≤ 1048576 * 1024 := mul_le (by omega) (by omega)
    have hA : ∃ X Y E, WhereGives U W D a X Y E ∧ ((E = 2 ∧ X = 0 ∧ Y = 0 ∧ (a < 0 ∨ 1099511627776 < a)) ∨ (E = 0 ∧ 0 ≤ a ∧ a ≤ 1099511627776 ∧ FWhereGives U W D a X Y)) := by
      by_cases ha : 0 ≤ a ∧ a ≤ 1099511627776
      · obtain ⟨n, rfl⟩ : ∃ n : Nat, a = n := ⟨a.toNat, by omega⟩
        exact ⟨_, _, 0, fun V => where_ok U W D n V hok (by omega), .inr ⟨rfl, ha.1, ha.2, fun V => fwhere_c U W D n V hok (by omega)⟩⟩
      · exact ⟨0, 0, 2, fun V => where_range U W D a V hok ha, .inl ⟨rfl, rfl, rfl, by omega⟩⟩
    have hB : ∃ B G, BackGives U W D o f B G ∧ ((G = 2 ∧ B = 0 ∧ (o < 0 ∨ 1099511627776 < o ∨ f < 0 ∨ ((U * D : Nat) : Int) ≤ f)) ∨ ((0 ≤ o ∧ o ≤ 1099511627776 ∧ 0 ≤ f ∧ f < ((U * D : Nat) : Int)) ∧ ((G = 0 ∧ 0 ≤ B ∧ FBackGives U W D o f B) ∨ (G = 3 ∧ B = 0 ∧ FBackGives U W D o f (-1))))) := by
      by_cases hr : (0 ≤ o ∧ o ≤ 1099511627776) ∧ 0 ≤ f ∧ f < ((U * D : Nat) : Int)
      · obtain ⟨m, rfl⟩ : ∃ n : Nat, o = n := ⟨o.toNat, by omega⟩
        obtain ⟨n, rfl⟩ : ∃ n : Nat, f = n := ⟨f.toNat, by omega⟩
        have hb := fun V => back_in U W D m n V hok (by omega) (by omega)
        have hf := fun V => fback_c U W D m n V hok (by omega) (by omega)
        by_cases hbk : bk U W D m n ≤ 1099511627776
        · rw [backIs, if_pos hbk] at hb
          rw [fbackIs, if_pos hbk] at hf
          exact ⟨_, 0, hb, .inr ⟨⟨hr.1.1, hr.1.2, hr.2.1, hr.2.2⟩, .inl ⟨rfl, by omega, hf⟩⟩⟩
        · rw [backIs, if_neg hbk] at hb
          rw [fbackIs, if_neg hbk] at hf
          exact ⟨0, 3, hb, .inr ⟨⟨hr.1.1, hr.1.2, hr.2.1, hr.2.2⟩, .inr ⟨rfl, rfl, hf⟩⟩⟩
      · exact ⟨0, 2, fun V => back_range U W D o f V hok hr, .inl ⟨rfl, rfl, by omega⟩⟩
    obtain ⟨X, Y, E, hw, hA⟩ := hA
    obtain ⟨B, G, hk, hB⟩ := hB
    exact main _ _ _ _ _ _ X Y E B G (U * D) V h muls (by omega) hw hk hA hB
  · exact form u w d a o f V h
theorem walk {H : Type} {enc : TypeId × Value → H} {base : Nat} {W : World} {v0 : Value} {d0 : DataW H} {p0 : List MemPlace}
    (o0 : Value.okWide Try.prog W .any base 23 v0) (h0 : DataW.Trod enc Try.prog W 0 (fun _ => true) true 23 v0 d0 p0) (a1 : Int) (w1 : (Lit.int .i64 a1).wf = true) (a2 : Int) (w2 : (Lit.int .i64 a2).wf = true) (a3 : Int) (w3 : (Lit.int .i64 a3).wf = true) :
    Calls Try.prog 3 #[v0, .int .i64 a1, .int .i64 a2, .int .i64 a3] W (Law.Yes W) := by
  obtain ⟨u, w, z, rfl, _, _, _⟩ := open_layout o0 h0
  exact words u w z a1 a2 a3 W
theorem own : ownKnob Try.prog.godebug = none := by kernel_rfl
theorem laid : laidOutB Try.prog = true := by kernel_rfl
theorem pars : ∀ t ∈ Try.f3.params.toList, Try.prog.readableRec t = true ∧ t < Try.prog.types.size := by
  have h : Try.f3.params.toList.all (fun t => Try.prog.readableRec t && decide (t < Try.prog.types.size)) = true := by kernel_rfl
  intro t ht; have := List.all_eq_true.1 h t ht; simpa using this
theorem calls (H : Type) (enc : TypeId × Value → H) (W : World) (base : Nat) (args : Array Value) (ds : List (DataW H)) (before : List MemPlace)
    (hval : ∀ (j : Nat) t v, Try.f3.params[j]? = some t → args[j]? = some v → Value.okWide Try.prog W .any base t v)
    (hA : DataW.TrodAll enc Try.prog W 0 (fun _ => true) true Try.f3.params.toList args.toList ds before) :
    Calls Try.prog 3 args W (Law.Yes W) := by
  rw [Try.params3] at hA hval
  obtain ⟨v0, vs0, d0, ds0, p0, q0, hargs, rfl, rfl, h0, r0⟩ := trodAll_cons hA
  obtain ⟨v1, vs1, d1, ds1, p1, q1, rfl, rfl, rfl, h1, r1⟩ := trodAll_cons r0
  obtain ⟨v2, vs2, d2, ds2, p2, q2, rfl, rfl, rfl, h2, r2⟩ := trodAll_cons r1
  obtain ⟨v3, vs3, d3, ds3, p3, q3, rfl, rfl, rfl, h3, r3⟩ := trodAll_cons r2
  obtain ⟨rfl, rfl, rfl⟩ := trodAll_nil r3
  obtain rfl : args = #[v0, v1, v2, v3] := by cases args; simp_all
  obtain ⟨a1, rfl, rfl, rfl, w1⟩ := open_int Try.underlying3 (hval 1 3 v1 rfl rfl) h1
  obtain ⟨a2, rfl, rfl, rfl, w2⟩ := open_int Try.underlying3 (hval 2 3 v2 rfl rfl) h2
  obtain ⟨a3, rfl, rfl, rfl, w3⟩ := open_int Try.underlying3 (hval 3 3 v3 rfl rfl) h3
  exact walk (W := W) (hval 0 23 v0 rfl rfl) h0 a1 w1 a2 w2 a3 w3
theorem fnOf (H : Type) : ∀ ds : List (DataW H), ds.length = Try.f3.params.toList.length → Rows.stripeWhereSpec.fn H ds = { results := [.lit (.bool true)], args := ds } := by
  intro ds h
  have h : ds.length = 4 := h
  obtain _ | ⟨x0, ds⟩ := ds
  · simp at h
  obtain _ | ⟨x1, ds⟩ := ds
  · simp at h
  obtain _ | ⟨x2, ds⟩ := ds
  · simp at h
  obtain _ | ⟨x3, ds⟩ := ds
  · simp at h
  obtain rfl : ds = [] := List.eq_nil_of_length_eq_zero (by simpa using h)
  rfl
set_option maxRecDepth 100000 in
theorem lifted (os : Os) (started : os.Started) (H : Type) (enc : TypeId × Value → H) :
    ReturnsInHanded {} Try.checked os 3 .any (Rows.stripeWhereSpec.pre6 enc Try.prog Try.f3 Rows.stripeWhereRow.domain false) (Rows.stripeWhereSpec.post enc Try.prog Try.f3 false true false false) := by
  refine returnsInHanded_of_change (C := Try.checked) own started (by kernel_rfl) Try.func3
    (ChangeSpec.witness6 (enc := enc) (C := Try.checked) false ⟨#[], #[.agg #[.int .i64 0, .int .i64 0, .int .i64 0], .int .i64 0, .int .i64 0, .int .i64 0], []⟩ 8 (by kernel_rfl) (by kernel_rfl) (by kernel_rfl) (by kernel_rfl)) ?_
  intro W base args ds gs before hval hW _ _
  obtain ⟨p, q, hA, hV, rfl, hfz, hnd⟩ := id hW
  obtain ⟨rfl, rfl⟩ := trodVars_none hV
  exact Law.ending (C := Try.checked) (s := Rows.stripeWhereSpec) laid pars rfl Try.underlying4 rfl (fnOf H) hW (calls H enc W base args ds p hval hA)
theorem over : Rows.stripeWhereRow.holds Try.pinned (OpenSpec.ofChange Rows.stripeWhereSpec) :=
  OpenClaim.holds_of_wide 3 Try.f3 rfl rfl rfl rfl rfl rfl rfl ⟨rfl, rfl, rfl, rfl, rfl⟩ rfl rfl rfl rfl rfl (by kernel_rfl) Try.func3 (by kernel_rfl)
    (of_decide_eq_true (by kernel_rfl)) (by unfold Func.isWrapper; first | (rw [if_pos (by decide +kernel)]; kernel_rfl) | (rw [if_neg (by decide +kernel)]; exact ⟨rfl, rfl⟩))
    (fun os started H enc _ => lifted os started H enc)
theorem proved : Rows.StripeWhereSaid := over
end Go.Proofs.Ytlcbchpijijilaa.stripeWhere
