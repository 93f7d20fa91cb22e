/-
  StripeParts: the ways that end early.
-/
import Derived.Test.YtlcbchpijijilaaStAlive
import Derived.Test.YtlcbchpijijilaaStCat2
import Derived.Test.YtlcbchpijijilaaStLay
namespace Go.Proofs.Ytlcbchpijijilaa.stripeParts
open Go.ChangeShapes Go.WideShapes Go.ChangeAt Go.RowKit
open Mem Stripe
set_option linter.unusedVariables false

def AnySplit (k : Int) (W : World) (e : Ending) (W' : World) : Prop := ∃ A n c, e = .returned (.tuple #[.slice A n c, .int .i64 k]) ∧ Below W.heap.size W W'
def Splits (u w d a l : Int) (P : World → Ending → World → Prop) : Prop := ∀ V, Calls Try.prog 15 #[.agg #[.int .i64 u, .int .i64 w, .int .i64 d], .int .i64 a, .int .i64 l] V (P V)

set_option maxRecDepth 100000 in
set_option maxHeartbeats 1000000 in
theorem off (u w d n a b : Int) (V : World) (h : ¬ ((0 ≤ a ∧ a ≤ 1073741824) ∧ (0 ≤ b ∧ b ≤ 1073741824) ∧ 0 ≤ n ∧ n ≤ 1099511627776)) :
    Calls Try.prog 7 #[.agg #[.int .i64 u, .int .i64 w, .int .i64 d], .int .i64 n, .int .i64 a, .int .i64 b] V (Law.Yes V) := by
  by_cases h1 : a < 0
  · clear h
    go_enter Try.func7, Try.ntmps7
    go_wp2_with fail
    refine (alive_c _).mono ?_
    rintro e w1 ⟨rfl, hb⟩
    obtain ⟨c0, c1, c2⟩ := box_cells hb
    have HB1 := Lib.hid hb
    clear hb c0 c1 c2
    go_wp2
    go_ret
    exact ⟨rfl, below_box HB1.out⟩
  by_cases h2 : b < 0
  · clear h
    go_enter Try.func7, Try.ntmps7
    go_wp2_with fail
    refine (alive_c _).mono ?_
    rintro e w1 ⟨rfl, hb⟩
    obtain ⟨c0, c1, c2⟩ := box_cells hb
    have HB1 := Lib.hid hb
    clear hb c0 c1 c2
    go_wp2
    go_ret
    exact ⟨rfl, below_box HB1.out⟩
  by_cases h3 : 1073741824 < a
  · clear h
    go_enter Try.func7, Try.ntmps7
    go_wp2_with fail
    refine (alive_c _).mono ?_
    rintro e w1 ⟨rfl, hb⟩
    obtain ⟨c0, c1, c2⟩ := box_cells hb
    have HB1 := Lib.hid hb
    clear hb c0 c1 c2
    go_wp2
    go_ret
    exact ⟨rfl, below_box HB1.out⟩
  by_cases h4 : 1073741824 < b
  · clear h
    go_enter Try.func7, Try.ntmps7
    go_wp2_with fail
    refine (alive_c _).mono ?_
    rintro e w1 ⟨rfl, hb⟩
    obtain ⟨c0, c1, c2⟩ := box_cells hb
    have HB1 := Lib.hid hb
    clear hb c0 c1 c2
    go_wp2
    go_ret
    exact ⟨rfl, below_box HB1.out⟩
  by_cases h5 : n < 0
  · clear h
    go_enter Try.func7, Try.ntmps7
    go_wp2_with fail
    refine (alive_c _).mono ?_
    rintro e w1 ⟨rfl, hb⟩
    obtain ⟨c0, c1, c2⟩ := box_cells hb
    have HB1 := Lib.hid hb
    clear hb c0 c1 c2
    go_wp2
    go_ret
    exact ⟨rfl, below_box HB1.out⟩
  · have h6 : 1099511627776 < n := by omega
    clear h
    go_enter Try.func7, Try.ntmps7
    go_wp2_with fail
    refine (alive_c _).mono ?_
    rintro e w1 ⟨rfl, hb⟩
    obtain ⟨c0, c1, c2⟩ := box_cells hb
    have HB1 := Lib.hid hb
    clear hb c0 c1 c2
    go_wp2
    go_ret
    exact ⟨rfl, below_box HB1.out⟩

set_option maxRecDepth 100000 in
set_option maxHeartbeats 4000000 in
theorem errs (u w d n a b k1 k2 k3 : Int) (V : World) (h : (0 ≤ a ∧ a ≤ 1073741824) ∧ (0 ≤ b ∧ b ≤ 1073741824) ∧ 0 ≤ n ∧ n ≤ 1099511627776) (hk : k1 ≠ 0 ∨ k2 ≠ 0 ∨ k3 ≠ 0)
    (h1 : Splits u w d n a (AnySplit k1)) (h2 : Splits u w d (n + a) b (AnySplit k2)) (h3 : Splits u w d n (a + b) (AnySplit k3)) :
    Calls Try.prog 7 #[.agg #[.int .i64 u, .int .i64 w, .int .i64 d], .int .i64 n, .int .i64 a, .int .i64 b] V (Law.Yes V) := by
  have H1 := Lib.hid h1
  have H2 := Lib.hid h2
  have H3 := Lib.hid h3
  obtain ⟨⟨j1, j2⟩, ⟨j3, j4⟩, j5, j6⟩ := h
  clear h1 h2 h3
  by_cases e1 : k1 = 0
  · subst e1
    by_cases e2 : k2 = 0
    · subst e2
      have e3 : k3 ≠ 0 := by omega
      have n3 : (k3 != 0) = true := by simpa using e3
      clear hk e3
      go_enter Try.func7, Try.ntmps7
      go_wp2_with fail
      refine (alive_c _).mono ?_
      rintro e w1 ⟨rfl, hb⟩
      obtain ⟨c0, c1, c2⟩ := box_cells hb
      have HB1 := Lib.hid hb
      clear hb
      go_wp2_with fail
      refine (H1.out _).mono ?_
      rintro e w2 ⟨A1, n1, c1', rfl, hb⟩
      have hb' := HB1.out.trans (hb.mono HB1.out.size)
      obtain ⟨d0, d1, d2⟩ := box_cells hb'
      have HB2 := Lib.hid hb'
      clear hb hb' c0 c1 c2
      go_wp2_with fail
      refine (H2.out _).mono ?_
      rintro e w3 ⟨A2, n2, c2', rfl, hb⟩
      have hb' := HB2.out.trans (hb.mono HB2.out.size)
      obtain ⟨e0, e1, e2⟩ := box_cells hb'
      have HB3 := Lib.hid hb'
      clear hb hb' d0 d1 d2
      go_wp2_with fail
      refine (H3.out _).mono ?_
      rintro e w4 ⟨A3, n3, c3', rfl, hb⟩
      have hb' := HB3.out.trans (hb.mono HB3.out.size)
      obtain ⟨f0, f1, f2⟩ := box_cells hb'
      have HB4 := Lib.hid hb'
      clear hb hb' e0 e1 e2
      go_wp2
      go_ret
      exact ⟨rfl, below_box HB4.out⟩
    · have n2 : (k2 != 0) = true := by simpa using e2
      clear hk e2
      go_enter Try.func7, Try.ntmps7
      go_wp2_with fail
      refine (alive_c _).mono ?_
      rintro e w1 ⟨rfl, hb⟩
      obtain ⟨c0, c1, c2⟩ := box_cells hb
      have HB1 := Lib.hid hb
      clear hb
      go_wp2_with fail
      refine (H1.out _).mono ?_
      rintro e w2 ⟨A1, n1, c1', rfl, hb⟩
      have hb' := HB1.out.trans (hb.mono HB1.out.size)
      obtain ⟨d0, d1, d2⟩ := box_cells hb'
      have HB2 := Lib.hid hb'
      clear hb hb' c0 c1 c2
      go_wp2_with fail
      refine (H2.out _).mono ?_
      rintro e w3 ⟨A2, n2, c2', rfl, hb⟩
      have hb' := HB2.out.trans (hb.mono HB2.out.size)
      obtain ⟨e0, e1, e2⟩ := box_cells hb'
      have HB3 := Lib.hid hb'
      clear hb hb' d0 d1 d2
      go_wp2_with fail
      refine (H3.out _).mono ?_
      rintro e w4 ⟨A3, n3, c3', rfl, hb⟩
      have hb' := HB3.out.trans (hb.mono HB3.out.size)
      obtain ⟨f0, f1, f2⟩ := box_cells hb'
      have HB4 := Lib.hid hb'
      clear hb hb' e0 e1 e2
      go_wp2
      go_ret
      exact ⟨rfl, below_box HB4.out⟩
  · have n1 : (k1 != 0) = true := by simpa using e1
    clear hk e1
    go_enter Try.func7, Try.ntmps7
    go_wp2_with fail
    refine (alive_c _).mono ?_
    rintro e w1 ⟨rfl, hb⟩
    obtain ⟨c0, c1, c2⟩ := box_cells hb
    have HB1 := Lib.hid hb
    clear hb
    go_wp2_with fail
    refine (H1.out _).mono ?_
    rintro e w2 ⟨A1, n1, c1', rfl, hb⟩
    have hb' := HB1.out.trans (hb.mono HB1.out.size)
    obtain ⟨d0, d1, d2⟩ := box_cells hb'
    have HB2 := Lib.hid hb'
    clear hb hb' c0 c1 c2
    go_wp2_with fail
    refine (H2.out _).mono ?_
    rintro e w3 ⟨A2, n2, c2', rfl, hb⟩
    have hb' := HB2.out.trans (hb.mono HB2.out.size)
    obtain ⟨e0, e1, e2⟩ := box_cells hb'
    have HB3 := Lib.hid hb'
    clear hb hb' d0 d1 d2
    go_wp2_with fail
    refine (H3.out _).mono ?_
    rintro e w4 ⟨A3, n3, c3', rfl, hb⟩
    have hb' := HB3.out.trans (hb.mono HB3.out.size)
    obtain ⟨f0, f1, f2⟩ := box_cells hb'
    have HB4 := Lib.hid hb'
    clear hb hb' e0 e1 e2
    go_wp2
    go_ret
    exact ⟨rfl, below_box HB4.out⟩
end Go.Proofs.Ytlcbchpijijilaa.stripeParts
