/-
  slices.Equal of numbers; the check of a few known values that the statements about package stripe begin with: it answers true.
-/
import Derived.Test.YtlcbchpijijilaaStD
import Derived.Test.YtlcbchpijijilaaStEq
import Derived.Test.YtlcbchpijijilaaLaw
namespace Go.Proofs.Ytlcbchpijijilaa.Stripe
set_option linter.unusedVariables false
open Go.RowKit Mem

theorem equalI_c (A B : Option Addr) (xs ys : List Nat) (n m ca cb : Nat) (W : World) (hn : xs.length = n) (hm : ys.length = m) (hb1 : n ≤ 9223372036854775807) (hb2 : m ≤ 9223372036854775807) (hx : Reads W A (xs.map nat64)) (hy : Reads W B (ys.map nat64)) :
    Calls Try.prog 20 #[.slice A n ca, .slice B m cb] W (Gave (.bool (decide (xs = ys))) W) := by
  by_cases h : n = m
  · subst h
    by_cases h0 : n = 0
    · subst h0
      obtain rfl := List.eq_nil_of_length_eq_zero hn
      obtain rfl := List.eq_nil_of_length_eq_zero hm
      refine (Try.slices_Equal_int_empty A B ca 0 cb W hb2).mono ?_
      rintro e w ⟨rfl, rfl⟩
      exact ⟨rfl, Below.refl _ _⟩
    · have cell : ∀ (zs : List Nat) (C : Option Addr), zs.length = n → Reads W C (zs.map nat64) → ∃ b o, C = some ⟨b, o, none⟩ ∧ ∀ j, j < (zs.map (fun z : Nat => (z : Int))).length → W.cell? ⟨b, o + j, none⟩ = some (.int .i64 ((zs.map (fun z : Nat => (z : Int))).getD j 0)) := by
        intro zs C hz hC
        obtain ⟨b, o, rfl, _, _⟩ := hC 0 (nat64 (zs[0]'(by omega))) (by rw [List.getElem?_map, List.getElem?_eq_getElem (by omega)]; rfl)
        refine ⟨b, o, rfl, fun j hj => ?_⟩
        have hj' : j < zs.length := by simpa using hj
        obtain ⟨b', o', e, _, hc⟩ := hC j (nat64 zs[j]) (by rw [List.getElem?_map, List.getElem?_eq_getElem hj']; rfl)
        injection e with e; injection e with e1 e2; subst e1 e2
        rw [hc, List.getD_eq_getElem?_getD, List.getElem?_map, List.getElem?_eq_getElem hj']; rfl
      obtain ⟨b1, o1, rfl, c1⟩ := cell xs A hn hx
      obtain ⟨b2, o2, rfl, c2⟩ := cell ys B hm hy
      refine (Try.slices_Equal_int b1 o1 n ca b2 o2 n cb (xs.map fun z : Nat => (z : Int)) (ys.map fun z : Nat => (z : Int)) W (by simp; omega) (by simp; omega) hb1 hb2 c1 c2).mono ?_
      rintro e w ⟨rfl, q, rfl⟩
      refine ⟨?_, below_drewN (Below.refl _ _) _⟩
      rw [List.take_of_length_le (by simp; omega), List.take_of_length_le (by simp; omega)]
      congr 2
      rw [Bool.eq_iff_iff, beq_iff_eq, decide_eq_true_iff]
      constructor
      · intro h; exact (List.map_inj_right (fun _ _ h => by omega)).1 h
      · rintro rfl; rfl
  · refine (Try.slices_Equal_int_lens A B n ca m cb W h).mono ?_
    rintro e w ⟨rfl, rfl⟩
    exact ⟨by rw [decide_eq_false (fun e => h (by rw [← hn, ← hm, e]))], Below.refl _ _⟩

theorem erds_made {W : World} {g : Nat} {cs : Array Value} {es : List Ex} (h : Known W g 43 cs) (hc : cs = (flat es).toArray) : ERds W (some ⟨g, 0, none⟩) es := fun k e hk => by
  subst hc
  obtain ⟨f1, f2, f3⟩ := flat_at hk
  exact ⟨g, 0, rfl, h.lt, by rw [Nat.zero_add, h.cell]; simpa using f1, by rw [Nat.zero_add, h.cell]; simpa using f2, by rw [Nat.zero_add, h.cell]; simpa using f3⟩
theorem reads_made {W : World} {g : Nat} {t : TypeId} {cs : Array Value} {l : List Nat} (h : Known W g t cs) (hc : cs = (l.map nat64).toArray) : Reads W (some ⟨g, 0, none⟩) (l.map nat64) := fun k v hk => by
  subst hc
  exact ⟨g, 0, rfl, h.lt, by rw [Nat.zero_add, h.cell]; simpa using hk⟩
theorem ok232 : Ok 2 3 2 := ⟨⟨by omega, by omega⟩, ⟨by omega, by omega⟩, by omega, by omega⟩
theorem ex232 : exts 2 3 2 1 4 = [(0, 1, 1), (1, 0, 2), (2, 0, 1)] := by decide
theorem sz232 : sizs 2 3 2 13 = [4, 4, 4, 1] := by decide
theorem where232 (V : World) : Calls Try.prog 9 #[.agg #[.int .i64 2, .int .i64 3, .int .i64 2], .int .i64 15] V (Gave (.tuple #[.int .i64 4, .int .i64 1, .int .i64 0]) V) := by
  have h := where_ok 2 3 2 15 V ok232 (by omega)
  rw [show objOf 2 3 2 15 = 4 by decide, show frOf 2 3 2 15 = 1 by decide] at h
  exact h
theorem split232 (V : World) : Calls Try.prog 15 #[.agg #[.int .i64 2, .int .i64 3, .int .i64 2], .int .i64 1, .int .i64 4] V (ExOut [(0, 1, 1), (1, 0, 2), (2, 0, 1)] V) := by
  have h := split_ok 2 3 2 1 4 V ok232 (by omega) (by omega)
  rw [ex232] at h
  exact h
theorem sizes232 (V : World) : Calls Try.prog 16 #[.agg #[.int .i64 2, .int .i64 3, .int .i64 2], .int .i64 13] V (IntsOut [4, 4, 4, 1] V) := by
  have h := sizes_ok 2 3 2 13 V ok232 (by omega) (by omega)
  rw [sz232] at h
  exact h
set_option maxRecDepth 100000 in
set_option maxHeartbeats 4000000 in
theorem alive_c (W : World) : Calls Try.prog 21 #[] W (Law.Yes W) := by
  have K := Lib.hid (Known.made W 23 #[.int .i64 2, .int .i64 3, .int .i64 2])
  go_enter Try.func21, Try.ntmps21
  go_wp2_with fail
  refine (where232 _).mono ?_
  rintro e w1 ⟨rfl, hb1⟩
  obtain ⟨c0, c1, c2⟩ := box_cells hb1
  have B1 := Lib.hid hb1
  clear hb1
  go_wp2_with fail
  refine (split232 _).mono ?_
  rintro e w2 ⟨A2, ca2, rfl, _, hT2, hb2⟩
  have hb2' := B1.out.trans (hb2.mono B1.out.size)
  obtain ⟨d0, d1, d2⟩ := box_cells hb2'
  have B2 := Lib.hid hb2'
  have T2 := Lib.hid hT2
  clear hb2 hb2' c0 c1 c2 hT2
  go_wp2_with fail
  refine (sizes232 _).mono ?_
  rintro e w3 ⟨A3, ca3, rfl, _, hT3, hb3⟩
  have B3 := Lib.hid (B2.out.trans (hb3.mono B2.out.size))
  have T23 := Lib.hid (T2.out.later hb3)
  have T3 := Lib.hid hT3
  clear hb3 d0 d1 d2 hT3 T2
  go_wp2_with fail
  have hm1 := erds_made (Known.made w3 43 #[.int .i64 0, .int .i64 1, .int .i64 1, .int .i64 1, .int .i64 0, .int .i64 2, .int .i64 2, .int .i64 0, .int .i64 1]) (es := [(0, 1, 1), (1, 0, 2), (2, 0, 1)]) rfl
  have ha1 : Below w3.heap.size w3 (w3.alloc (.cells #[.int .i64 0, .int .i64 1, .int .i64 1, .int .i64 1, .int .i64 0, .int .i64 2, .int .i64 2, .int .i64 0, .int .i64 1] 43)) := (Below.refl _ _).alloc (Nat.le_refl _) _
  refine (equalEx_c A2 _ [(0, 1, 1), (1, 0, 2), (2, 0, 1)] [(0, 1, 1), (1, 0, 2), (2, 0, 1)] 3 3 ca2 3 _ rfl rfl (by omega) (T23.out.rds.below ha1) hm1).mono ?_
  rintro e w4 ⟨rfl, hb4⟩
  have hb4' := ha1.trans (hb4.mono ha1.size)
  have B4 := Lib.hid (B3.out.trans (hb4'.mono B3.out.size))
  have T4 := Lib.hid (T3.out.later hb4')
  rw [show eqEx [(0, 1, 1), (1, 0, 2), (2, 0, 1)] [(0, 1, 1), (1, 0, 2), (2, 0, 1)] = true by decide]
  clear hm1 ha1 hb4 hb4' T23 T3
  go_wp2_with fail
  have hm2 := reads_made (Known.made w4 3 #[.int .i64 4, .int .i64 4, .int .i64 4, .int .i64 1]) (l := [4, 4, 4, 1]) rfl
  have ha2 : Below w4.heap.size w4 (w4.alloc (.cells #[.int .i64 4, .int .i64 4, .int .i64 4, .int .i64 1] 3)) := (Below.refl _ _).alloc (Nat.le_refl _) _
  refine (equalI_c A3 _ [4, 4, 4, 1] [4, 4, 4, 1] 4 4 ca3 4 _ rfl rfl (by omega) (by omega) (T4.out.reads.below ha2) hm2).mono ?_
  rintro e w5 ⟨rfl, hb5⟩
  have B5 := Lib.hid (B4.out.trans ((ha2.trans (hb5.mono ha2.size)).mono B4.out.size))
  rw [show decide ([4, 4, 4, 1] = [4, 4, 4, 1]) = true by decide]
  clear hm2 ha2 hb5
  go_wp2
  go_ret
  exact ⟨rfl, below_box B5.out⟩
end Go.Proofs.Ytlcbchpijijilaa.Stripe
