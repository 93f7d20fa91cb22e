/-
  StrawGone: for every key, all items, every place and every number asked for, the law StrawGone answers true (who goes gives up its own, all others stay in order), and its arguments read afterwards as before. No condition.
-/
import Derived.Test.YtmljipopkgfblaaSwGone
import Derived.Test.YtmljipopkgfblaaSwAlive
import Derived.Test.YtmljipopkgfblaaSwIts
namespace Go.Proofs.Ytmljipopkgfblaa.strawGone
open Go.ChangeShapes Go.WideShapes Go.ChangeAt Go.RowKit
open Mem Straw
set_option linter.unusedVariables false
set_option linter.unusedSimpArgs false

theorem boxed (W : World) (A : Option Addr) (n ca : Nat) (k : Int) :
    ((W.alloc (.cells #[.slice A n ca] 23)).alloc (.cells #[.int .i64 k] 3)).cell? ⟨W.heap.size, 0, none⟩ = some (.slice A n ca) ∧ ((W.alloc (.cells #[.slice A n ca] 23)).alloc (.cells #[.int .i64 k] 3)).cell? ⟨W.heap.size + 1, 0, none⟩ = some (.int .i64 k) :=
  ⟨((Known.made W _ #[.slice A n ca]).alloc _).cell 0, Known.cell (cs := #[.int .i64 k]) (heap_alloc2_new _ _ _) 0⟩
theorem boxedB (W : World) (A : Option Addr) (n ca : Nat) (k : Int) : Below W.heap.size W ((W.alloc (.cells #[.slice A n ca] 23)).alloc (.cells #[.int .i64 k] 3)) :=
  ((Below.refl _ _).alloc (Nat.le_refl _) _).alloc (by simp) _
set_option maxRecDepth 100000 in
set_option maxHeartbeats 8000000 in
theorem early (key : UInt64) (A : Option Addr) (l : List It) (n ca : Nat) (k many : Int) (W : World) (hn : l.length = n) (hbig : n ≤ 8796093022208) (hca : n ≤ ca) (hx : WRds W A l) (hf : Fits l) (h : someE key l many ≠ 0 ∨ k < 0 ∨ (n : Int) ≤ k) :
    Calls Try.prog 4 #[.int .u64 key.toNat, .slice A n ca, .int .i64 k, .int .i64 many] W (Law.Yes W) := by
  have S1 := Lib.hid (fun V hb => some_spec key A l n ca many V hn (by unfold maxLen; omega) hca (hx.below hb) hf)
  obtain ⟨c5, c6⟩ := boxed W A n ca k
  have G0 := Lib.hid (boxedB W A n ca k)
  have hL : someE key l many ≠ 0 → someL key l many = [] := fun h => by unfold someL; rw [if_neg h]
  have V1 := someE_vals key l many
  generalize someE key l many = e1 at *
  generalize someL key l many = l1 at *
  clear hx hf hn
  by_cases he : e1 = 0
  · subst he
    clear V1 hL
    by_cases hk : k < 0
    · have q1 : decide (k < 0) = true := decide_eq_true hk
      clear h
      go_enter Try.func4, Try.ntmps4
      go_wp2_with fail
      refine (alive_c _).mono ?_
      rintro e w1 ⟨rfl, hb⟩
      have d5 := (hb.cell (p := ⟨W.heap.size, 0, none⟩) (World.block_lt_of_cell? _ _ c5)).trans c5
      have d6 := (hb.cell (p := ⟨W.heap.size + 1, 0, none⟩) (World.block_lt_of_cell? _ _ c6)).trans c6
      have G1 := Lib.hid (G0.out.trans (hb.mono G0.out.size))
      clear hb c5 c6
      go_wp2_with fail
      refine (S1.out _ G1.out).mono ?_
      rintro e w2 ⟨A2, c2, rfl, hr, hb⟩
      have f5 := (hb.cell (p := ⟨W.heap.size, 0, none⟩) (World.block_lt_of_cell? _ _ d5)).trans d5
      have f6 := (hb.cell (p := ⟨W.heap.size + 1, 0, none⟩) (World.block_lt_of_cell? _ _ d6)).trans d6
      have G2 := Lib.hid (G1.out.trans (hb.mono G1.out.size))
      clear hb hr d5 d6
      go_wp2
      go_ret
      exact ⟨rfl, G2.out⟩
    · have q1 : decide (k < 0) = false := decide_eq_false hk
      have hk2 : (n : Int) ≤ k := by omega
      have q2 : decide ((n : Int) ≤ k) = true := decide_eq_true hk2
      clear h
      go_enter Try.func4, Try.ntmps4
      go_wp2_with fail
      refine (alive_c _).mono ?_
      rintro e w1 ⟨rfl, hb⟩
      have d5 := (hb.cell (p := ⟨W.heap.size, 0, none⟩) (World.block_lt_of_cell? _ _ c5)).trans c5
      have d6 := (hb.cell (p := ⟨W.heap.size + 1, 0, none⟩) (World.block_lt_of_cell? _ _ c6)).trans c6
      have G1 := Lib.hid (G0.out.trans (hb.mono G0.out.size))
      clear hb c5 c6
      go_wp2_with fail
      refine (S1.out _ G1.out).mono ?_
      rintro e w2 ⟨A2, c2, rfl, hr, hb⟩
      have f5 := (hb.cell (p := ⟨W.heap.size, 0, none⟩) (World.block_lt_of_cell? _ _ d5)).trans d5
      have f6 := (hb.cell (p := ⟨W.heap.size + 1, 0, none⟩) (World.block_lt_of_cell? _ _ d6)).trans d6
      have G2 := Lib.hid (G1.out.trans (hb.mono G1.out.size))
      clear hb hr d5 d6
      go_wp2
      go_ret
      exact ⟨rfl, G2.out⟩
  · obtain rfl := hL he
    rcases V1 with rfl | rfl | rfl | rfl
    · exact absurd rfl he
    all_goals
      clear h he hL
      go_enter Try.func4, Try.ntmps4
      go_wp2_with fail
      refine (alive_c _).mono ?_
      rintro e w1 ⟨rfl, hb⟩
      have d5 := (hb.cell (p := ⟨W.heap.size, 0, none⟩) (World.block_lt_of_cell? _ _ c5)).trans c5
      have G1 := Lib.hid (G0.out.trans (hb.mono G0.out.size))
      clear hb c5 c6
      go_wp2_with fail
      refine (S1.out _ G1.out).mono ?_
      rintro e w2 ⟨A2, c2, rfl, hr, hb⟩
      have G2 := Lib.hid (G1.out.trans (hb.mono G1.out.size))
      clear hb hr
      go_wp2
      go_ret
      exact ⟨rfl, G2.out⟩
set_option maxRecDepth 100000 in
set_option maxHeartbeats 8000000 in
theorem main (key : UInt64) (b o : Nat) (l : List It) (n ca k j : Nat) (u : It) (W : World) (hn : l.length = n) (hbig : n ≤ 8796093022208) (hca : n ≤ ca) (hx : WRds W (some ⟨b, o, none⟩) l) (hf : Fits l) (hu : l[k]? = some u) (h : someE key l j = 0) :
    Calls Try.prog 4 #[.int .u64 key.toNat, .slice (some ⟨b, o, none⟩) n ca, .int .i64 k, .int .i64 j] W (Law.Yes W) := by
  have hkn : k < n := by rw [← hn]; exact (List.getElem?_eq_some_iff.1 hu).1
  have hv := someE_zero.1 h
  have hn16 : n ≤ 16 := by rw [← hn]; exact hv.1.1
  obtain ⟨b', o', e', hbW, x0, _⟩ := hx k u hu
  injection e' with e'
  injection e' with e1 e2
  subst e1 e2
  have S1 := fun V hb => some_spec key (some ⟨b, o, none⟩) l n ca j V hn (by unfold maxLen; omega) hca (hx.below hb) hf
  have hS : someL key l j = (ids key l).take j := by unfold someL; rw [if_pos h, Int.toNat_natCast]
  rw [h, hS] at S1
  obtain ⟨g1, g2⟩ := gone_some hu h
  have S2 := fun V A3 c3 q (hq : q = n - 1) (hc : q ≤ c3) hx3 => some_spec key A3 (less l k) q c3 ((((ids key l).take j).filter (fun x => x != u.1)).length : Int) V (by rw [less_len (by omega), hn, hq]) (by unfold maxLen; omega) hc hx3 (less_fits hf)
  rw [g1, g2] at S2
  have hav : ((ids key l).take j).length = j := by rw [List.length_take]; omega
  have hj16 : j ≤ 16 := by omega
  have hlf : (((ids key l).take j).filter (fun x => x != u.1)).length ≤ 16 := Nat.le_trans (List.length_filter_le _ _) (by omega)
  have LS := Lib.hid (show less l k = l.take k ++ l.drop (k + 1) from rfl)
  obtain ⟨c5, c6⟩ := boxed W (some ⟨b, o, none⟩) n ca k
  have G0 := Lib.hid (boxedB W (some ⟨b, o, none⟩) n ca k)
  have FE := Lib.hid (show ((ids key l).take j).filter (fun x => x != u.1) = ((ids key l).take j).filter (fun x => x != u.1) from rfl)
  generalize hav2 : (ids key l).take j = av at *
  generalize hle : av.filter (fun x => x != u.1) = left at *
  generalize hp : left.length = p at *
  have HLE := Lib.hid hle
  have HP := Lib.hid hp
  have HAV := Lib.hid hav
  have HS1 := Lib.hid S1
  have HS2 := Lib.hid S2
  have HX := Lib.hid hx
  have X0 := Lib.hid x0
  have LT := Lib.hid (show (l.take k).length = k by rw [List.length_take, hn]; omega)
  have LD := Lib.hid (show (l.drop (k + 1)).length = n - (k + 1) by rw [List.length_drop, hn])
  generalize hless : less l k = ml at *
  have mk := fun fn first cap w => mk_func fn first cap w
  have q1 : decide ((k : Int) < 0) = false := by rw [decide_eq_false_iff_not]; omega
  have q2 : decide ((n : Int) ≤ (k : Int)) = false := by rw [decide_eq_false_iff_not]; omega
  have i1 : (k : Int) ≤ (ca : Int) := by omega
  have i2 : (k : Int) + 1 ≤ (n : Int) := by omega
  have i3 : (n : Int) ≤ (ca : Int) := by omega
  have i4 : IntKind.i64.wrap ((k : Int) + 1) = (k : Int) + 1 := IntWalk.i64_in _ (by omega)
  clear h hv hS S1 S2 g1 g2 hav hav2 hle hp hx hf hu hn x0 FE hless
  have e1 : ((k : Int) + 1).toNat = k + 1 := by omega
  have f1 : (0 : Int) ≤ (k : Int) := by omega
  have f4 : (0 : Int) ≤ (k : Int) + 1 := by omega
  have TWO : Hid ((∃ o', ((ca = k + 1) = True ∧ o = o' ∨ (ca = k + 1) = False ∧ o + (k + 1) * 2 = o') ∧ ∀ V, WRds V (some ⟨b, o, none⟩) l → WRds V (some ⟨b, o', none⟩) (l.drop (k + 1)))) := Lib.hid (by
    by_cases hcap : ca = k + 1
    · exact ⟨o, .inl ⟨eq_true hcap, rfl⟩, fun V _ => by rw [List.eq_nil_of_length_eq_zero (show (l.drop (k + 1)).length = 0 by rw [LD.out]; omega)]; exact WRds.nil⟩
    · exact ⟨_, .inr ⟨eq_false hcap, rfl⟩, fun V h => wrds_drop h _⟩)
  obtain ⟨o', ho, hR⟩ := TWO.out
  have HR := Lib.hid hR
  clear TWO hR
  rcases ho with ⟨hcd, rfl⟩ | ⟨hcd, rfl⟩
  all_goals
    go_enter Try.func4, Try.ntmps4
    go_wp2_with fail
    refine (alive_c _).mono ?_
    rintro e w1 ⟨rfl, hb⟩
    have d5 := (hb.cell (p := ⟨W.heap.size, 0, none⟩) (World.block_lt_of_cell? _ _ c5)).trans c5
    have d6 := (hb.cell (p := ⟨W.heap.size + 1, 0, none⟩) (World.block_lt_of_cell? _ _ c6)).trans c6
    have G1 := Lib.hid (G0.out.trans (hb.mono G0.out.size))
    clear hb c5 c6
    go_wp2_with fail
    refine (HS1.out _ G1.out).mono ?_
    rintro e w2 ⟨A2, c2, rfl, hr, hb⟩
    rw [HAV.out]
    have f5 := (hb.cell (p := ⟨W.heap.size, 0, none⟩) (World.block_lt_of_cell? _ _ d5)).trans d5
    have f6 := (hb.cell (p := ⟨W.heap.size + 1, 0, none⟩) (World.block_lt_of_cell? _ _ d6)).trans d6
    have G2 := Lib.hid (G1.out.trans (hb.mono G1.out.size))
    have R2 := Lib.hid hr
    have BX := Lib.hid (World.block_lt_of_cell? _ _ f6)
    clear hb hr d5 d6 G1
    have X2 := Lib.hid (HX.out.below G2.out)
    have SK := Lib.hid (show ∀ w, Below w2.heap.size w2 w → w.cell? ⟨W.heap.size, 0, none⟩ = some (.slice (some ⟨b, o, none⟩) n ca) ∧ w.cell? ⟨W.heap.size + 1, 0, none⟩ = some (.int .i64 (k : Int)) from fun w hb => ⟨(hb.cell (p := ⟨W.heap.size, 0, none⟩) (World.block_lt_of_cell? _ _ f5)).trans f5, (hb.cell (p := ⟨W.heap.size + 1, 0, none⟩) (World.block_lt_of_cell? _ _ f6)).trans f6⟩)
    go_wp2
    go_region_held3 (fun w' => w'.cell? ⟨W.heap.size, 0, none⟩ = some (.slice (some ⟨b, o, none⟩) n ca) ∧ w'.cell? ⟨W.heap.size + 1, 0, none⟩ = some (.int .i64 (k : Int))) (first | go_keep | exact SK.out _ K3.out | exact SK.out _ K4.out)
      (first
        | (go_at_call 17; refine (clone_w (some ⟨b, o, none⟩) (l.take k) k ca _ LT.out (by omega) (WRds.take (X2.out.below (below_drew (Below.refl _ _))) k)).mono ?_; rintro e w3 ⟨A3, c3, rfl, hT, hc, hb⟩; have T3 := Lib.hid hT; have K3 := Lib.hid (show Below w2.heap.size w2 w3 from below_undrew' hb); clear hT hc hb)
        | (refine step_append_its (by rfl) _ _ (by rfl) rfl rfl rfl T3.out LT.out (HR.out _ (X2.out.below K3.out)) LD.out (by omega) K3.out.size ?_; intro A4 c4 w4 Z4 G4; have K4 := Lib.hid (below_app K3.out T3.out (by simp) G4.out)))
    have Q4 := Lib.hid (show k + (n - (k + 1)) = n - 1 from by omega)
    rw [← LS.out] at Z4
    generalize k + (n - (k + 1)) = q at *
    have X4 := Lib.hid (show GC w4 W.heap.size (W.heap.size + 1) b o n ca k u.1 from ⟨(SK.out _ K4.out).1, (SK.out _ K4.out).2, ((G2.out.trans (K4.out.mono G2.out.size)).cell (p := ⟨b, _, none⟩) hbW).trans X0.out⟩)
    have G4' := Lib.hid (show Below W.heap.size W w4 from G2.out.trans (K4.out.mono G2.out.size))
    have R4 := Lib.hid (R2.out.below K4.out)
    have M4 := Lib.hid Z4.out.rds
    have C4 := Lib.hid (WTab.cap Z4.out)
    have BW4 := Lib.hid (show W.heap.size + 1 < w4.heap.size from Nat.lt_of_lt_of_le BX.out K4.out.size)
    clear SK K3 K4 T3 G4 Z4 X2 f5 f6 R2 G2
    go_wp2_with fail
    refine (clone_z A2 av j c2 w4 HAV.out (by omega) R4.out).mono ?_
    rintro e w5 ⟨A5, c5, rfl, hz, hb⟩
    have Z5 := Lib.hid hz
    have X5 := Lib.hid (X4.out.later hb (by have := BW4.out; omega) BW4.out (by have := BW4.out; omega))
    have B45 := Lib.hid hb
    clear hz hb X4 R4
    have DL := Lib.hid (deleteF_c w4.heap.size A5 av j c5 W.heap.size (W.heap.size + 1) b o n ca k u.1 w5 HAV.out (by omega) Z5.out hkn X5.out (by have := BW4.out; omega) BW4.out (by have := BW4.out; omega))
    rw [HLE.out, HP.out] at DL
    unfold cloG at DL
    go_wp2_with fail
    refine DL.out.mono ?_
    rintro e w6 ⟨rfl, hr, hb⟩
    have R6 := Lib.hid hr
    have B6 := Lib.hid (B45.out.trans hb)
    have M6 := Lib.hid (M4.out.below B6.out)
    have G6 := Lib.hid (G4'.out.trans (B6.out.mono G4'.out.size))
    clear hr hb DL Z5 X5 M4 B45 B6
    go_wp2_with fail
    refine (HS2.out w6 A4 c4 q Q4.out C4.out M6.out).mono ?_
    rintro e w7 ⟨A7, c7, rfl, hr, hb⟩
    rw [HP.out]
    have R7 := Lib.hid hr
    have L7 := Lib.hid (R6.out.below hb)
    have G7 := Lib.hid (G6.out.trans (hb.mono G6.out.size))
    have EQ := Lib.hid (equalZ_c A7 A5 left left p p c7 c5 w7 HP.out HP.out (by omega) (by omega) R7.out L7.out)
    rw [show decide (left = left) = true from decide_eq_true rfl] at EQ
    clear hr hb R6 M6 G6
    go_wp2_with (go_at_call 15; refine EQ.out.mono ?_; rintro e w8 ⟨rfl, hb⟩; have G8 := Lib.hid (G7.out.trans (hb.mono G7.out.size)); clear hb)
    go_ret
    exact ⟨rfl, G8.out⟩
theorem words (key : UInt64) (A : Option Addr) (l : List It) (n ca : Nat) (k many : Int) (W : World) (hn : l.length = n) (hbig : n ≤ 8796093022208) (hca : n ≤ ca) (hx : WRds W A l) (hf : Fits l) :
    Calls Try.prog 4 #[.int .u64 key.toNat, .slice A n ca, .int .i64 k, .int .i64 many] W (Law.Yes W) := by
  by_cases h : someE key l many ≠ 0 ∨ k < 0 ∨ (n : Int) ≤ k
  · exact early key A l n ca k many W hn hbig hca hx hf h
  · have h0 : someE key l many = 0 := by
      rcases Decidable.em (someE key l many = 0) with e | e
      · exact e
      · exact absurd (.inl e) h
    obtain ⟨m, rfl⟩ : ∃ m : Nat, k = m := ⟨k.toNat, by omega⟩
    obtain ⟨_, hj, _⟩ := someE_zero.1 h0
    obtain ⟨j, rfl⟩ : ∃ j : Nat, many = j := ⟨many.toNat, by omega⟩
    have hm : m < l.length := by omega
    have hu := List.getElem?_eq_getElem hm
    obtain ⟨b, o, rfl, _⟩ := hx m _ hu
    exact main key b o l n ca m j _ W hn hbig hca hx hf hu h0
set_option maxRecDepth 100000 in
theorem walk {H : Type} {enc : TypeId × Value → H} {base : Nat} {W : World} (a0 : Int) (w0 : (Lit.int .u64 a0).wf = true) {v1 : Value} {d1 : DataW H} {p1 : List MemPlace}
    (o1 : Value.okWide Try.prog W .any base 23 v1) (h1 : DataW.Trod enc Try.prog W 0 (fun _ => true) true 23 v1 d1 p1) (a2 : Int) (w2 : (Lit.int .i64 a2).wf = true) (a3 : Int) (w3 : (Lit.int .i64 a3).wf = true) {d0 : DataW H} {d2 : DataW H} {d3 : DataW H}
    (hz : (DataW.weightsEach Try.prog [22, 23, 3, 3] [d0, d1, d2, d3]).all (· ≤ reachBytes) = true) :
    Calls Try.prog 4 #[.int .u64 a0, v1, .int .i64 a2, .int .i64 a3] W (Law.Yes W) := by
  obtain ⟨A, ca, l, rfl, hl, hc, _, hx, hf⟩ := open_itsZ o1 h1 hz (j := 1) rfl rfl
  obtain ⟨key, rfl⟩ := Words.of_wf64 w0
  exact words key A l _ ca a2 a3 W rfl hl hc hx hf
theorem own : ownKnob Try.prog.godebug = none := by kernel_rfl
theorem laid : laidOutB Try.prog = true := by kernel_rfl
theorem pars : ∀ t ∈ Try.f4.params.toList, Try.prog.readableRec t = true ∧ t < Try.prog.types.size := by
  have h : Try.f4.params.toList.all (fun t => Try.prog.readableRec t && decide (t < Try.prog.types.size)) = true := by kernel_rfl
  intro t ht; have := List.all_eq_true.1 h t ht; simpa using this
set_option maxRecDepth 100000 in
theorem calls (H : Type) (enc : TypeId × Value → H) (W : World) (base : Nat) (args : Array Value) (ds : List (DataW H)) (before : List MemPlace)
    (hval : ∀ (j : Nat) t v, Try.f4.params[j]? = some t → args[j]? = some v → Value.okWide Try.prog W .any base t v)
    (hA : DataW.TrodAll enc Try.prog W 0 (fun _ => true) true Try.f4.params.toList args.toList ds before) (hz : (DataW.weightsEach Try.prog Try.f4.params.toList ds).all (· ≤ reachBytes) = true) :
    Calls Try.prog 4 args W (Law.Yes W) := by
  rw [Try.params4] at hA hval hz
  obtain ⟨v0, vs0, d0, ds0, p0, q0, hargs, rfl, rfl, h0, r0⟩ := trodAll_cons hA
  obtain ⟨v1, vs1, d1, ds1, p1, q1, rfl, rfl, rfl, h1, r1⟩ := trodAll_cons r0
  obtain ⟨v2, vs2, d2, ds2, p2, q2, rfl, rfl, rfl, h2, r2⟩ := trodAll_cons r1
  obtain ⟨v3, vs3, d3, ds3, p3, q3, rfl, rfl, rfl, h3, r3⟩ := trodAll_cons r2
  obtain ⟨rfl, rfl, rfl⟩ := trodAll_nil r3
  obtain rfl : args = #[v0, v1, v2, v3] := by cases args; simp_all
  obtain ⟨a0, rfl, rfl, rfl, w0⟩ := open_int Try.underlying22 (hval 0 22 v0 rfl rfl) h0
  obtain ⟨a2, rfl, rfl, rfl, w2⟩ := open_int Try.underlying3 (hval 2 3 v2 rfl rfl) h2
  obtain ⟨a3, rfl, rfl, rfl, w3⟩ := open_int Try.underlying3 (hval 3 3 v3 rfl rfl) h3
  exact walk (W := W) a0 w0 (hval 1 23 v1 rfl rfl) h1 a2 w2 a3 w3 hz
theorem fnOf (H : Type) : ∀ ds : List (DataW H), ds.length = Try.f4.params.toList.length → Rows.strawGoneSpec.fn H ds = { results := [.lit (.bool true)], args := ds } := by
  intro ds h
  have h : ds.length = 4 := h
  obtain _ | ⟨x0, ds⟩ := ds
  · simp at h
  obtain _ | ⟨x1, ds⟩ := ds
  · simp at h
  obtain _ | ⟨x2, ds⟩ := ds
  · simp at h
  obtain _ | ⟨x3, ds⟩ := ds
  · simp at h
  obtain rfl : ds = [] := List.eq_nil_of_length_eq_zero (by simpa using h)
  rfl
set_option maxRecDepth 100000 in
theorem lifted (os : Os) (started : os.Started) (H : Type) (enc : TypeId × Value → H) :
    ReturnsInHanded {} Try.checked os 4 .any (Rows.strawGoneSpec.pre6 enc Try.prog Try.f4 Rows.strawGoneRow.domain false) (Rows.strawGoneSpec.post enc Try.prog Try.f4 false true false false) := by
  refine returnsInHanded_of_change_sized (C := Try.checked) own started (by kernel_rfl) Try.func4
    (ChangeSpec.witness6 (enc := enc) (C := Try.checked) false ⟨#[], #[.int .u64 0, .slice none 0 0, .int .i64 0, .int .i64 0], []⟩ 8 (by kernel_rfl) (by kernel_rfl) (by kernel_rfl) (by kernel_rfl)) ?_
  intro W base args ds gs before hval hW _ hz _
  obtain ⟨p, q, hA, hV, rfl, hfz, hnd⟩ := id hW
  obtain ⟨rfl, rfl⟩ := trodVars_none hV
  simp only [List.append_nil] at hz
  have hz2 : (DataW.weightsEach Try.prog Try.f4.params.toList ds).all (· ≤ reachBytes) = true := hz
  exact Law.ending (C := Try.checked) (s := Rows.strawGoneSpec) laid pars rfl Try.underlying4 rfl (fnOf H) hW (calls H enc W base args ds p hval hA hz2)
theorem over : Rows.strawGoneRow.holds Try.pinned (OpenSpec.ofChange Rows.strawGoneSpec) :=
  OpenClaim.holds_of_wide 4 Try.f4 rfl rfl rfl rfl rfl rfl rfl ⟨rfl, rfl, rfl, rfl, rfl⟩ rfl rfl rfl rfl rfl (by kernel_rfl) Try.func4 (by kernel_rfl)
    (of_decide_eq_true (by kernel_rfl)) (by unfold Func.isWrapper; first | (rw [if_pos (by decide +kernel)]; kernel_rfl) | (rw [if_neg (by decide +kernel)]; exact ⟨rfl, rfl⟩))
    (fun os started H enc _ => lifted os started H enc)
theorem proved : Rows.StrawGoneSaid := over
end Go.Proofs.Ytmljipopkgfblaa.strawGone
