/-
  MapsBack: for all maps a and b, the law MapsBack answers true (what is unlike, applied, makes them alike, and undone it is as it was), and its arguments read afterwards as before. No condition.
-/
import Derived.Test.YtmijjaihedbjgaaMpHold
namespace Go.Proofs.Ytmijjaihedbjgaa.mapsBack
open Go.ChangeShapes Go.WideShapes Go.ChangeAt Go.RowKit
open Mem Mps
set_option linter.unusedVariables false
set_option linter.unusedSimpArgs false

set_option maxRecDepth 100000 in
set_option maxHeartbeats 16000000 in
theorem bad (a1 : Int) (A : Option Addr) (la : List Int) (n c : Nat) (b1 : Int) (B : Option Addr) (lb : List Int) (m cb : Nat) (W : World) (hn : la.length = n) (hbig : n ≤ 17592186044416) (hx : Reads W A (ints la)) (hm : lb.length = m) (hmb : m ≤ 17592186044416) (hy : Reads W B (ints lb))
    (k0 : Int) (hk : dfE (a1, la) (b1, lb) = k0) (h0 : k0 ≠ 0) :
    Calls Try.prog 5 #[.agg #[.int .i64 a1, .slice A n c], .agg #[.int .i64 b1, .slice B m cb]] W (Law.Yes W) := by
  have SY : SaysS (dfE (a1, la) (b1, lb)) (dfS (a1, la) (b1, lb)) 0 [] 0 k0 := ⟨hk, dfS_bad (by rw [hk]; exact h0), rfl⟩
  have HSY := Lib.hid SY
  have q0 : (k0 != 0) = true := by simpa using h0
  have X0 := Lib.hid ((HM.new (e := a1) (n := n) (c := c) hx rfl).alloc (.cells #[.int .i64 b1, .slice B m cb] 24))
  have Y0 := Lib.hid (HM.new (V := W.alloc (.cells #[.int .i64 a1, .slice A n c] 24)) (g := W.heap.size + 1) (e := b1) (n := m) (c := cb) (hy.alloc _) (alloc2_size _ _))
  have B0 := Lib.hid (show Below W.heap.size W ((W.alloc (.cells #[.int .i64 a1, .slice A n c] 24)).alloc (.cells #[.int .i64 b1, .slice B m cb] 24)) from (below_alloc _ _).alloc (by simp) _)
  have HN := Lib.hid hn
  have HMM := Lib.hid hm
  clear hn hx hm hy
  clear hk h0 SY
  go_enter Try.func5, Try.ntmps5
  obtain ⟨X_0, X_1, -⟩ := X0.out
  obtain ⟨Y_0, Y_1, -⟩ := Y0.out
  go_wp2_with fail
  refine (alive_c _).mono ?_
  rintro e w1 ⟨rfl, hb⟩
  clear X_0 X_1 Y_0 Y_1
  have Xr1 := Lib.hid (X0.out.below hb)
  have Yr1 := Lib.hid (Y0.out.below hb)
  have Br1 := Lib.hid (B0.out.trans (hb.mono B0.out.size))
  clear X0 Y0
  clear hb
  obtain ⟨X_0, X_1, -⟩ := Xr1.out
  obtain ⟨Y_0, Y_1, -⟩ := Yr1.out
  go_wp2_with fail
  refine (diff_c _ _ la n _ _ _ lb m _ _ HN.out hbig Xr1.out.2.2 HMM.out hmb Yr1.out.2.2 0 [] 0 k0 HSY.out).mono ?_
  rintro e w2 ⟨A2, c2, rfl, hr, hb, -⟩
  clear X_0 X_1 Y_0 Y_1
  have Xr2 := Lib.hid (Xr1.out.below hb)
  have Yr2 := Lib.hid (Yr1.out.below hb)
  have Br2 := Lib.hid (Br1.out.trans (hb.mono Br1.out.size))
  clear Xr1 Yr1
  have Xa2 := Lib.hid (Xr2.out.alloc (.cells #[.int .i64 (0 : Int), .slice A2 0 c2] 27))
  have Ya2 := Lib.hid (Yr2.out.alloc (.cells #[.int .i64 (0 : Int), .slice A2 0 c2] 27))
  have Ba2 := Lib.hid (Br2.out.alloc Br2.out.size (.cells #[.int .i64 (0 : Int), .slice A2 0 c2] 27))
  have Sa2 := Lib.hid (HS.new (e := (0 : Int)) (n := 0) (c := c2) hr (rfl : w2.heap.size = w2.heap.size))
  clear hr hb Xr2 Yr2
  obtain ⟨X_0, X_1, -⟩ := Xa2.out
  obtain ⟨Y_0, Y_1, -⟩ := Ya2.out
  obtain ⟨S_0, S_1, -⟩ := Sa2.out
  go_wp2
  go_ret
  exact ⟨rfl, Ba2.out⟩
set_option maxRecDepth 100000 in
set_option maxHeartbeats 16000000 in
theorem good (a1 : Int) (A : Option Addr) (la : List Int) (n c : Nat) (b1 : Int) (B : Option Addr) (lb : List Int) (m cb : Nat) (W : World) (hn : la.length = n) (hbig : n ≤ 17592186044416) (hx : Reads W A (ints la)) (hm : lb.length = m) (hmb : m ≤ 17592186044416) (hy : Reads W B (ints lb))
    (d0 : List Ch) (n0 : Nat) (he : dfE (a1, la) (b1, lb) = 0) (hd : dfS (a1, la) (b1, lb) = (a1, d0)) (hd0 : d0.length = n0) :
    Calls Try.prog 5 #[.agg #[.int .i64 a1, .slice A n c], .agg #[.int .i64 b1, .slice B m cb]] W (Law.Yes W) := by
  have SY := Lib.hid (show SaysS (dfE (a1, la) (b1, lb)) (dfS (a1, la) (b1, lb)) a1 d0 n0 0 from ⟨he, hd, hd0⟩)
  obtain ⟨t1, t2, t3, t4⟩ := diff_back he
  rw [hd] at t1 t2 t3 t4
  obtain ⟨u1, u2, u3, u4⟩ := dfE_zero.1 he
  obtain rfl : n = m := by rw [← hn, ← hm]; exact u3
  have SA := Lib.hid (show Says (apE (a1, la) (a1, d0)) (apM (a1, la) (a1, d0)) b1 lb n 0 from ⟨t1, t2, hm⟩)
  have SU := Lib.hid (show Says (unE (b1, lb) (a1, d0)) (unM (b1, lb) (a1, d0)) a1 la n 0 from ⟨t3, t4, hn⟩)
  have HQ := Lib.hid hd0
  have qb : n0 ≤ 5864062014805 := by
    rw [← hd0]
    have e := congrArg (fun s => s.2.length) hd
    rw [dfS_of he] at e
    simp only at e
    have := df_len 0 la lb
    have := u1.2.2
    simp only at this
    omega
  have X0 := Lib.hid ((HM.new (e := a1) (n := n) (c := c) hx rfl).alloc (.cells #[.int .i64 b1, .slice B n cb] 24))
  have Y0 := Lib.hid (HM.new (V := W.alloc (.cells #[.int .i64 a1, .slice A n c] 24)) (g := W.heap.size + 1) (e := b1) (n := n) (c := cb) (hy.alloc _) (alloc2_size _ _))
  have B0 := Lib.hid (show Below W.heap.size W ((W.alloc (.cells #[.int .i64 a1, .slice A n c] 24)).alloc (.cells #[.int .i64 b1, .slice B n cb] 24)) from (below_alloc _ _).alloc (by simp) _)
  have HN := Lib.hid hn
  have HMM := Lib.hid hm
  clear hn hx hm hy
  clear he hd hd0 t1 t2 t3 t4 u1 u2 u3 u4
  go_enter Try.func5, Try.ntmps5
  obtain ⟨X_0, X_1, -⟩ := X0.out
  obtain ⟨Y_0, Y_1, -⟩ := Y0.out
  go_wp2_with fail
  refine (alive_c _).mono ?_
  rintro e w1 ⟨rfl, hb⟩
  clear X_0 X_1 Y_0 Y_1
  have Xr1 := Lib.hid (X0.out.below hb)
  have Yr1 := Lib.hid (Y0.out.below hb)
  have Br1 := Lib.hid (B0.out.trans (hb.mono B0.out.size))
  clear X0 Y0
  clear hb
  obtain ⟨X_0, X_1, -⟩ := Xr1.out
  obtain ⟨Y_0, Y_1, -⟩ := Yr1.out
  go_wp2_with fail
  refine (diff_c _ _ la n _ _ _ lb n _ _ HN.out hbig Xr1.out.2.2 HMM.out hmb Yr1.out.2.2 a1 d0 n0 0 SY.out).mono ?_
  rintro e w2 ⟨A2, c2, rfl, hr, hb, -⟩
  clear X_0 X_1 Y_0 Y_1
  have Xr2 := Lib.hid (Xr1.out.below hb)
  have Yr2 := Lib.hid (Yr1.out.below hb)
  have Br2 := Lib.hid (Br1.out.trans (hb.mono Br1.out.size))
  clear Xr1 Yr1
  have Xa2 := Lib.hid (Xr2.out.alloc (.cells #[.int .i64 a1, .slice A2 n0 c2] 27))
  have Ya2 := Lib.hid (Yr2.out.alloc (.cells #[.int .i64 a1, .slice A2 n0 c2] 27))
  have Ba2 := Lib.hid (Br2.out.alloc Br2.out.size (.cells #[.int .i64 a1, .slice A2 n0 c2] 27))
  have Sa2 := Lib.hid (HS.new (e := a1) (n := n0) (c := c2) hr (rfl : w2.heap.size = w2.heap.size))
  clear hr hb Xr2 Yr2
  obtain ⟨X_0, X_1, -⟩ := Xa2.out
  obtain ⟨Y_0, Y_1, -⟩ := Ya2.out
  obtain ⟨S_0, S_1, -⟩ := Sa2.out
  go_wp2_with fail
  refine (apply_c _ _ la n _ _ _ d0 n0 _ _ HN.out hbig Xa2.out.2.2 HQ.out qb Sa2.out.2.2 b1 lb n 0 SA.out).mono ?_
  rintro e w3 ⟨A3, c3, rfl, hr, hb, -⟩
  clear X_0 X_1 Y_0 Y_1 S_0 S_1
  have Xr3 := Lib.hid (Xa2.out.below hb)
  have Yr3 := Lib.hid (Ya2.out.below hb)
  have Sr3 := Lib.hid (Sa2.out.below hb)
  have Br3 := Lib.hid (Ba2.out.trans (hb.mono Ba2.out.size))
  clear Xa2 Ya2 Sa2
  have Xa3 := Lib.hid (Xr3.out.alloc (.cells #[.int .i64 b1, .slice A3 n c3] 24))
  have Ya3 := Lib.hid (Yr3.out.alloc (.cells #[.int .i64 b1, .slice A3 n c3] 24))
  have Sa3 := Lib.hid (Sr3.out.alloc (.cells #[.int .i64 b1, .slice A3 n c3] 24))
  have Ba3 := Lib.hid (Br3.out.alloc Br3.out.size (.cells #[.int .i64 b1, .slice A3 n c3] 24))
  have Pa3 := Lib.hid (HM.new (e := b1) (n := n) (c := c3) hr (rfl : w3.heap.size = w3.heap.size))
  clear hr hb Xr3 Yr3 Sr3
  obtain ⟨X_0, X_1, -⟩ := Xa3.out
  obtain ⟨Y_0, Y_1, -⟩ := Ya3.out
  obtain ⟨S_0, S_1, -⟩ := Sa3.out
  obtain ⟨P_0, P_1, -⟩ := Pa3.out
  go_wp2_with fail
  refine (undo_c _ _ lb n _ _ _ d0 n0 _ _ HMM.out hbig Ya3.out.2.2 HQ.out qb Sa3.out.2.2 a1 la n 0 SU.out).mono ?_
  rintro e w4 ⟨A4, c4, rfl, hr, hb, -⟩
  clear X_0 X_1 Y_0 Y_1 S_0 S_1 P_0 P_1
  have Xr4 := Lib.hid (Xa3.out.below hb)
  have Yr4 := Lib.hid (Ya3.out.below hb)
  have Sr4 := Lib.hid (Sa3.out.below hb)
  have Pr4 := Lib.hid (Pa3.out.below hb)
  have Br4 := Lib.hid (Ba3.out.trans (hb.mono Ba3.out.size))
  clear Xa3 Ya3 Sa3 Pa3
  have Xa4 := Lib.hid (Xr4.out.alloc (.cells #[.int .i64 a1, .slice A4 n c4] 24))
  have Ya4 := Lib.hid (Yr4.out.alloc (.cells #[.int .i64 a1, .slice A4 n c4] 24))
  have Sa4 := Lib.hid (Sr4.out.alloc (.cells #[.int .i64 a1, .slice A4 n c4] 24))
  have Pa4 := Lib.hid (Pr4.out.alloc (.cells #[.int .i64 a1, .slice A4 n c4] 24))
  have Ba4 := Lib.hid (Br4.out.alloc Br4.out.size (.cells #[.int .i64 a1, .slice A4 n c4] 24))
  have Qa4 := Lib.hid (HM.new (e := a1) (n := n) (c := c4) hr (rfl : w4.heap.size = w4.heap.size))
  clear hr hb Xr4 Yr4 Sr4 Pr4
  obtain ⟨X_0, X_1, -⟩ := Xa4.out
  obtain ⟨Y_0, Y_1, -⟩ := Ya4.out
  obtain ⟨S_0, S_1, -⟩ := Sa4.out
  obtain ⟨P_0, P_1, -⟩ := Pa4.out
  obtain ⟨Q_0, Q_1, -⟩ := Qa4.out
  go_wp2_with fail
  refine (same_c _ _ _ lb n _ _ _ HMM.out hbig Pa4.out.2.2 Ya4.out.2.2).mono ?_
  rintro e w5 ⟨rfl, hb⟩
  clear X_0 X_1 Y_0 Y_1 S_0 S_1 P_0 P_1 Q_0 Q_1
  have Xr5 := Lib.hid (Xa4.out.below hb)
  have Yr5 := Lib.hid (Ya4.out.below hb)
  have Sr5 := Lib.hid (Sa4.out.below hb)
  have Pr5 := Lib.hid (Pa4.out.below hb)
  have Qr5 := Lib.hid (Qa4.out.below hb)
  have Br5 := Lib.hid (Ba4.out.trans (hb.mono Ba4.out.size))
  clear Xa4 Ya4 Sa4 Pa4 Qa4
  clear hb
  obtain ⟨X_0, X_1, -⟩ := Xr5.out
  obtain ⟨Y_0, Y_1, -⟩ := Yr5.out
  obtain ⟨S_0, S_1, -⟩ := Sr5.out
  obtain ⟨P_0, P_1, -⟩ := Pr5.out
  obtain ⟨Q_0, Q_1, -⟩ := Qr5.out
  go_wp2_with fail
  refine (same_c _ _ _ la n _ _ _ HN.out hbig Qr5.out.2.2 Xr5.out.2.2).mono ?_
  rintro e w6 ⟨rfl, hb⟩
  clear X_0 X_1 Y_0 Y_1 S_0 S_1 P_0 P_1 Q_0 Q_1
  have Xr6 := Lib.hid (Xr5.out.below hb)
  have Yr6 := Lib.hid (Yr5.out.below hb)
  have Sr6 := Lib.hid (Sr5.out.below hb)
  have Pr6 := Lib.hid (Pr5.out.below hb)
  have Qr6 := Lib.hid (Qr5.out.below hb)
  have Br6 := Lib.hid (Br5.out.trans (hb.mono Br5.out.size))
  clear Xr5 Yr5 Sr5 Pr5 Qr5
  clear hb
  obtain ⟨X_0, X_1, -⟩ := Xr6.out
  obtain ⟨Y_0, Y_1, -⟩ := Yr6.out
  obtain ⟨S_0, S_1, -⟩ := Sr6.out
  obtain ⟨P_0, P_1, -⟩ := Pr6.out
  obtain ⟨Q_0, Q_1, -⟩ := Qr6.out
  go_wp2
  go_ret
  exact ⟨rfl, Br6.out⟩
set_option maxRecDepth 100000 in
theorem walk {H : Type} {enc : TypeId × Value → H} {base : Nat} {W : World} {v0 : Value} {d0 : DataW H} {p0 : List MemPlace}
    (o0 : Value.okWide Try.prog W .any base 24 v0) (h0 : DataW.Trod enc Try.prog W 0 (fun _ => true) true 24 v0 d0 p0) {v1 : Value} {d1 : DataW H} {p1 : List MemPlace}
    (o1 : Value.okWide Try.prog W .any base 24 v1) (h1 : DataW.Trod enc Try.prog W 0 (fun _ => true) true 24 v1 d1 p1)
    (hz : (DataW.weightsEach Try.prog [24, 24] [d0, d1]).all (· ≤ reachBytes) = true) :
    Calls Try.prog 5 #[v0, v1] W (Law.Yes W) := by
  obtain ⟨a1, A, la, n, c, rfl, _, hn, hnb, hx⟩ := open_mapZ o0 h0 hz (j := 0) rfl rfl
  obtain ⟨b1, B, lb, m, cb, rfl, _, hm, hmb, hy⟩ := open_mapZ o1 h1 hz (j := 1) rfl rfl
  by_cases h : dfE (a1, la) (b1, lb) = 0
  · exact good a1 A la n c b1 B lb m cb W hn hnb hx hm hmb hy _ _ h (dfS_of h) rfl
  · exact bad a1 A la n c b1 B lb m cb W hn hnb hx hm hmb hy _ rfl h
theorem own : ownKnob Try.prog.godebug = none := by kernel_rfl
theorem laid : laidOutB Try.prog = true := by kernel_rfl
theorem pars : ∀ t ∈ Try.f5.params.toList, Try.prog.readableRec t = true ∧ t < Try.prog.types.size := by
  have h : Try.f5.params.toList.all (fun t => Try.prog.readableRec t && decide (t < Try.prog.types.size)) = true := by kernel_rfl
  intro t ht; have := List.all_eq_true.1 h t ht; simpa using this
set_option maxRecDepth 100000 in
theorem calls (H : Type) (enc : TypeId × Value → H) (W : World) (base : Nat) (args : Array Value) (ds : List (DataW H)) (before : List MemPlace)
    (hval : ∀ (j : Nat) t v, Try.f5.params[j]? = some t → args[j]? = some v → Value.okWide Try.prog W .any base t v)
    (hA : DataW.TrodAll enc Try.prog W 0 (fun _ => true) true Try.f5.params.toList args.toList ds before) (hz : (DataW.weightsEach Try.prog Try.f5.params.toList ds).all (· ≤ reachBytes) = true) :
    Calls Try.prog 5 args W (Law.Yes W) := by
  rw [Try.params5] at hA hval hz
  obtain ⟨v0, vs0, d0, ds0, p0, q0, hargs, rfl, rfl, h0, r0⟩ := trodAll_cons hA
  obtain ⟨v1, vs1, d1, ds1, p1, q1, rfl, rfl, rfl, h1, r1⟩ := trodAll_cons r0
  obtain ⟨rfl, rfl, rfl⟩ := trodAll_nil r1
  obtain rfl : args = #[v0, v1] := by cases args; simp_all
  exact walk (W := W) (hval 0 24 v0 rfl rfl) h0 (hval 1 24 v1 rfl rfl) h1 hz
theorem fnOf (H : Type) : ∀ ds : List (DataW H), ds.length = Try.f5.params.toList.length → Rows.mapsBackSpec.fn H ds = { results := [.lit (.bool true)], args := ds } := by
  intro ds h
  have h : ds.length = 2 := h
  obtain _ | ⟨x0, ds⟩ := ds
  · simp at h
  obtain _ | ⟨x1, ds⟩ := ds
  · simp at h
  obtain rfl : ds = [] := List.eq_nil_of_length_eq_zero (by simpa using h)
  rfl
set_option maxRecDepth 100000 in
theorem lifted (os : Os) (started : os.Started) (H : Type) (enc : TypeId × Value → H) :
    ReturnsInHanded {} Try.checked os 5 .any (Rows.mapsBackSpec.pre6 enc Try.prog Try.f5 Rows.mapsBackRow.domain false) (Rows.mapsBackSpec.post enc Try.prog Try.f5 false true false false) := by
  refine returnsInHanded_of_change_sized (C := Try.checked) own started (by kernel_rfl) Try.func5
    (ChangeSpec.witness6 (enc := enc) (C := Try.checked) false ⟨#[], #[.agg #[.int .i64 0, .slice none 0 0], .agg #[.int .i64 0, .slice none 0 0]], []⟩ 8 (by kernel_rfl) (by kernel_rfl) (by kernel_rfl) (by kernel_rfl)) ?_
  intro W base args ds gs before hval hW _ hz _
  obtain ⟨p, q, hA, hV, rfl, hfz, hnd⟩ := id hW
  obtain ⟨rfl, rfl⟩ := trodVars_none hV
  simp only [List.append_nil] at hz
  have hz2 : (DataW.weightsEach Try.prog Try.f5.params.toList ds).all (· ≤ reachBytes) = true := hz
  exact Law.ending (C := Try.checked) (s := Rows.mapsBackSpec) laid pars rfl Try.underlying4 rfl (fnOf H) hW (calls H enc W base args ds p hval hA hz2)
theorem over : Rows.mapsBackRow.holds Try.pinned (OpenSpec.ofChange Rows.mapsBackSpec) :=
  OpenClaim.holds_of_wide 5 Try.f5 rfl rfl rfl rfl rfl rfl rfl ⟨rfl, rfl, rfl, rfl, rfl⟩ rfl rfl rfl rfl rfl (by kernel_rfl) Try.func5 (by kernel_rfl)
    (of_decide_eq_true (by kernel_rfl)) (by unfold Func.isWrapper; first | (rw [if_pos (by decide +kernel)]; kernel_rfl) | (rw [if_neg (by decide +kernel)]; exact ⟨rfl, rfl⟩))
    (fun os started H enc _ => lifted os started H enc)
theorem proved : Rows.MapsBackSaid := over
end Go.Proofs.Ytmijjaihedbjgaa.mapsBack
