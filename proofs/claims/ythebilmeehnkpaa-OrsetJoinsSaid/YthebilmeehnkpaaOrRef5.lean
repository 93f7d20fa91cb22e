/-
  The document's own answers of package orset: QJoin.
-/
import Derived.Test.YthebilmeehnkpaaOrRef4
import Derived.Deep.RegionLaw
namespace Go.Proofs.Ythebilmeehnkpaa.Ors
set_option linter.unusedVariables false
set_option linter.unusedSimpArgs false
open Go.RowKit Mem Gt
open Jump (Gave equalZ_c)

theorem fieldsBag' : Try.prog.underlying 25 = some (.struct #[⟨ "Has", 22, 0, false, "", "", 0⟩, ⟨ "Saw", 23, 1, false, "", "", 24⟩]) := fieldsBag
/-- No bag. -/
theorem hb_none (V : World) : HB V none none 0 0 0 0 ([], []) := ⟨rfl, rfl, ⟨Nat.le_refl _, by omega⟩, ⟨Nat.le_refl _, by omega⟩, by omega, by omega, fun i v hv => by simp [flat] at hv, fun i v hv => by simp at hv, fun t ht => by simp at ht⟩
set_option maxRecDepth 100000 in
set_option maxHeartbeats 32000000 in
theorem qjoin_bad (H S H2 S2 : Option Addr) (nh ch ns cs nh2 ch2 ns2 cs2 : Nat) (a b : Bg) (V : World) (ha : HB V H S nh ch ns cs a) (hb : HB V H2 S2 nh2 ch2 ns2 cs2 b) (hbad : ¬ (okB a = true ∧ okB b = true ∧ ns = ns2)) :
    Calls Try.prog 21 #[.agg #[.slice H nh ch, .slice S ns cs], .agg #[.slice H2 nh2 ch2, .slice S2 ns2 cs2]] V (BOut ([], []) 0 0 1 V) := by
  have GA0 := ((HG.new ha rfl).alloc (.cells #[.slice H2 nh2 ch2, .slice S2 ns2 cs2] 25)).alloc (.cells #[.slice none 0 0, .slice none 0 0] 25)
  have GB0 := (HG.new (g := V.heap.size + 1) (hb.below (low_lit V (.cells #[.slice H nh ch, .slice S ns cs] 25))) (by simp)).alloc (.cells #[.slice none 0 0, .slice none 0 0] 25)
  have KR0 := Known.made ((V.alloc (.cells #[.slice H nh ch, .slice S ns cs] 25)).alloc (.cells #[.slice H2 nh2 ch2, .slice S2 ns2 cs2] 25)) tB #[.slice none 0 0, .slice none 0 0]
  rw [show ((V.alloc (.cells #[.slice H nh ch, .slice S ns cs] 25)).alloc (.cells #[.slice H2 nh2 ch2, .slice S2 ns2 cs2] 25)).heap.size = V.heap.size + 2 by simp] at KR0
  have B0 := (((low_lit V (.cells #[.slice H nh ch, .slice S ns cs] 25))).alloc (by simp) (.cells #[.slice H2 nh2 ch2, .slice S2 ns2 cs2] 25)).alloc (by simp; omega) (.cells #[.slice none 0 0, .slice none 0 0] 25)
  obtain ⟨W3, hW3⟩ : ∃ W3, W3 = ((V.alloc (.cells #[.slice H nh ch, .slice S ns cs] 25)).alloc (.cells #[.slice H2 nh2 ch2, .slice S2 ns2 cs2] 25)).alloc (.cells #[.slice none 0 0, .slice none 0 0] 25) := ⟨_, rfl⟩
  have GA := Lib.hid (show HG W3 V.heap.size H S nh ch ns cs a by rw [hW3]; exact GA0)
  have GB := Lib.hid (show HG W3 (V.heap.size + 1) H2 S2 nh2 ch2 ns2 cs2 b by rw [hW3]; exact GB0)
  have KR := Lib.hid (show Known W3 (V.heap.size + 2) tB #[.slice none 0 0, .slice none 0 0] by rw [hW3]; exact KR0)
  have BV := Lib.hid (show Below V.heap.size V W3 by rw [hW3]; exact B0)
  have FIN := Lib.hid (fun (w : World) (hbw : Below W3.heap.size W3 w) => show BOut ([], []) 0 0 1 V (.returned (.tuple #[.agg #[.slice none 0 0, .slice none 0 0], .int .i64 1])) ((w.setCell ⟨V.heap.size + 2, 0, none⟩ (.slice none 0 0)).setCell ⟨V.heap.size + 2, 1, none⟩ (.slice none 0 0)) from
    ⟨none, none, 0, 0, rfl, hb_none _, (((BV.out.trans (hbw.mono BV.out.size)).setCell (p := ⟨V.heap.size + 2, 0, none⟩) (by show _ ≤ V.heap.size + 2; omega) _).setCell (p := ⟨V.heap.size + 2, 1, none⟩) (by show _ ≤ V.heap.size + 2; omega) _)⟩)
  have Q1 := Lib.hid (qright_c H S nh ch ns cs a W3 GA.out.2.2)
  obtain ⟨z0, z1, -⟩ := GA0
  obtain ⟨y0, y1, -⟩ := GB0
  clear ha hb KR0 B0
  cases oa : okB a with
  | false =>
    rw [oa] at Q1
    clear hbad oa
    go_enter Try.func21, Try.ntmps21
    go_wp2_with fail
    rw [← hW3]
    clear z0 z1 y0 y1
    refine Q1.out.mono ?_
    rintro x w4 ⟨rfl, hb⟩
    have B4 := Lib.hid hb
    have K4 := KR.out.later hb
    have c0 := K4.cell 0
    have c1 := K4.cell 1
    have f0 := K4.free 0
    have f1 := K4.free 1
    have KK := Lib.hid ((K4.put 0 (.slice none 0 0)).put 1 (.slice none 0 0))
    simp at c0 c1
    clear hb K4 hW3
    go_wp2
    refine bodyPost_ret (v := .tuple #[.agg #[.slice none 0 0, .slice none 0 0], .int .i64 1]) ?_ rfl (FIN.out w4 B4.out)
    exact results_row2 rfl _ _ (V.heap.size + 2) tB _ (0, 0) _ rfl KK.out fieldsBag sizeBag rfl
  | true =>
    rw [oa] at Q1
    go_enter Try.func21, Try.ntmps21
    go_wp2_with fail
    rw [← hW3]
    clear z0 z1 y0 y1
    refine Q1.out.mono ?_
    rintro x w4 ⟨rfl, hb⟩
    have B4 := Lib.hid hb
    have GA4 := GA.out.below hb
    have GB4 := GB.out.below hb
    have K4 := KR.out.later hb
    have HGA4 := Lib.hid GA4
    have HGB4 := Lib.hid GB4
    have HK4 := Lib.hid K4
    have Q2 := Lib.hid (qright_c H2 S2 nh2 ch2 ns2 cs2 b w4 GB4.2.2)
    obtain ⟨y0, y1, -⟩ := GB4
    clear hb hW3 Q1
    cases ob : okB b with
    | false =>
      rw [ob] at Q2
      have c0 := K4.cell 0
      clear K4 GA4 c0
      go_wp2_with fail
      refine Q2.out.mono ?_
      rintro x w5 ⟨rfl, hb⟩
      have B5 := Lib.hid (B4.out.trans (hb.mono B4.out.size))
      have K5 := HK4.out.later hb
      have c0 := K5.cell 0
      have c1 := K5.cell 1
      have f0 := K5.free 0
      have f1 := K5.free 1
      have KK := Lib.hid ((K5.put 0 (.slice none 0 0)).put 1 (.slice none 0 0))
      simp at c0 c1
      clear hb K5 y0 y1
      go_wp2
      refine bodyPost_ret (v := .tuple #[.agg #[.slice none 0 0, .slice none 0 0], .int .i64 1]) ?_ rfl (FIN.out w5 B5.out)
      exact results_row2 rfl _ _ (V.heap.size + 2) tB _ (0, 0) _ rfl KK.out fieldsBag sizeBag rfl
    | true =>
      rw [ob] at Q2
      have hne : ¬ ns = ns2 := fun e => hbad ⟨oa, ob, e⟩
      have n1 : ((ns : Int) != (ns2 : Int)) = true := by simp; omega
      clear K4 GA4
      go_wp2_with fail
      refine Q2.out.mono ?_
      rintro x w5 ⟨rfl, hb⟩
      have B5 := Lib.hid (B4.out.trans (hb.mono B4.out.size))
      have K5 := HK4.out.later hb
      have c0 := K5.cell 0
      have c1 := K5.cell 1
      have f0 := K5.free 0
      have f1 := K5.free 1
      have KK := Lib.hid ((K5.put 0 (.slice none 0 0)).put 1 (.slice none 0 0))
      clear y0 y1
      obtain ⟨z0, z1, -⟩ := HGA4.out.below hb
      obtain ⟨y0, y1, -⟩ := HGB4.out.below hb
      simp at c0 c1
      clear hb K5
      go_wp2
      refine bodyPost_ret (v := .tuple #[.agg #[.slice none 0 0, .slice none 0 0], .int .i64 1]) ?_ rfl (FIN.out w5 B5.out)
      exact results_row2 rfl _ _ (V.heap.size + 2) tB _ (0, 0) _ rfl KK.out fieldsBag sizeBag rfl
end Go.Proofs.Ythebilmeehnkpaa.Ors
