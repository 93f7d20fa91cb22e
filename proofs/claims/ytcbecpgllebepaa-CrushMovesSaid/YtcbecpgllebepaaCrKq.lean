/-
  The document's own placement: KPlace, whole.
-/
import Derived.Test.YtcbecpgllebepaaCrKp
import Derived.Test.YtcbecpgllebepaaCrPlacesW
namespace Go.Proofs.Ytcbecpgllebepaa.Crush
set_option linter.unusedVariables false
set_option linter.unusedSimpArgs false
open Go.RowKit Mem Straw

set_option maxRecDepth 100000 in
set_option maxHeartbeats 8000000 in
theorem kplace_bad (key : UInt64) (A : Option Addr) (hs : List Ht) (n ca : Nat) (many e0 : Int) (W : World) (hn : hs.length = n) (hb : n ≤ 4398046511104) (hca : n ≤ ca) (hx : HRds W A hs) (hf : FitsH hs) (he : plE key hs many = e0) (h0 : e0 ≠ 0) :
    Calls Try.prog 10 #[.int .u64 key.toNat, .slice A n ca, .int .i64 many] W (SpotsErr [] e0 W) := by
  have WR := kwrong_c A hs n ca W hn hb hx hf
  by_cases hk : krE hs = 0
  · have hg := krE_zero.1 hk
    rw [hk] at WR
    have KW := Lib.hid WR
    have KH := Lib.hid (fun V (hB : Below W.heap.size W V) => khosts_c A hs n ca V hn hb (hx.below hB) hg.1)
    have HA := Lib.hid (fun V A2 c2 (hT : WRds V A2 (wts hs)) => hall_c key A2 (wts hs) n c2 V (by rw [wts_len, hn]) hg.2 hT)
    obtain ⟨p, hp⟩ : ∃ p, p = (ids key (wts hs)).length := ⟨_, rfl⟩
    have hc : (many < 0 ∨ 16 < many) ∧ e0 = 2 ∨ ((0 ≤ many ∧ many ≤ 16) ∧ (p : Int) < many) ∧ e0 = 8 := by
      unfold plE at he
      rw [if_neg (by simpa using hk)] at he
      by_cases h1 : many < 0 ∨ 16 < many
      · rw [if_pos h1] at he; exact .inl ⟨h1, he.symm⟩
      · rw [if_neg h1, ← hp] at he
        by_cases h2 : (p : Int) < many
        · rw [if_pos h2] at he; exact .inr ⟨⟨by omega, h2⟩, he.symm⟩
        · rw [if_neg h2] at he; exact absurd he.symm h0
    rw [← hp] at HA
    clear hn hca hx hf he hg hk WR hp hb h0
    rcases hc with ⟨h1, rfl⟩ | ⟨⟨h1, h2⟩, rfl⟩
    · rcases h1 with h1 | h1
      · have q1 : decide (many < 0) = true := decide_eq_true h1
        go_enter Try.func10, Try.ntmps10
        go_wp2_with fail
        refine KW.out.mono ?_
        rintro e w1 ⟨rfl, hb1⟩
        have B1 := Lib.hid hb1
        clear hb1
        go_wp2
        go_ret2
        exact ⟨none, 0, rfl, Nat.le_refl _, WRds.nil, B1.out⟩
      · have q1 : decide (many < 0) = false := decide_eq_false (by omega)
        have q2 : decide (16 < many) = true := decide_eq_true h1
        go_enter Try.func10, Try.ntmps10
        go_wp2_with fail
        refine KW.out.mono ?_
        rintro e w1 ⟨rfl, hb1⟩
        have B1 := Lib.hid hb1
        clear hb1
        go_wp2
        go_ret2
        exact ⟨none, 0, rfl, Nat.le_refl _, WRds.nil, B1.out⟩
    · have q1 : decide (many < 0) = false := decide_eq_false (by omega)
      have q2 : decide (16 < many) = false := decide_eq_false (by omega)
      have q3 : decide ((p : Int) < many) = true := decide_eq_true h2
      go_enter Try.func10, Try.ntmps10
      go_wp2_with fail
      refine KW.out.mono ?_
      rintro e w1 ⟨rfl, hb1⟩
      have B1 := Lib.hid hb1
      clear hb1
      go_wp2_with fail
      refine (KH.out _ B1.out).mono ?_
      rintro e w2 ⟨A2, c2, rfl, hT2, hc2, hb2⟩
      have B2 := Lib.hid (B1.out.trans (hb2.mono B1.out.size))
      have H2 := Lib.hid (HA.out w2 A2 c2 hT2.rds)
      clear hb2 hT2
      go_wp2_with fail
      refine H2.out.mono ?_
      rintro e w3 ⟨A3, c3, rfl, hc3, hr3, hb3⟩
      have B3 := Lib.hid (B2.out.trans (hb3.mono B2.out.size))
      clear hb3 hr3 H2
      go_wp2
      go_ret2
      exact ⟨none, 0, rfl, Nat.le_refl _, WRds.nil, B3.out⟩
  · have he2 : krE hs = e0 := by rw [← he]; unfold plE; rw [if_pos hk]
    have hv := krE_vals hs
    rw [he2] at hv WR
    have KW := Lib.hid WR
    clear hn hca hx hf he hk WR he2 hb
    rcases hv with rfl | rfl | rfl
    · exact absurd rfl h0
    all_goals
      clear h0
      go_enter Try.func10, Try.ntmps10
      go_wp2_with fail
      refine KW.out.mono ?_
      rintro e w1 ⟨rfl, hb1⟩
      have B1 := Lib.hid hb1
      clear hb1
      go_wp2
      go_ret2
      exact ⟨none, 0, rfl, Nat.le_refl _, WRds.nil, B1.out⟩
theorem kplaceS : KPlaceSpec := fun key A hs n ca many V h1 h2 h3 h4 h5 => by
  by_cases h : plE key hs many = 0
  · obtain ⟨j, rfl⟩ : ∃ j : Nat, many = j := ⟨many.toNat, by have := (plE_zero.1 h).2.1; omega⟩
    rw [h]
    exact kplace_ok key A hs n ca j V h1 h3 h4 h5 h
  · have hl : plL key hs many = [] := by unfold plL; rw [if_neg h]
    rw [hl]
    exact kplace_bad key A hs n ca many _ V h1 h2 h3 h4 h5 rfl h
theorem kwrongS : KWrongSpec := fun A hs n ca V h1 h2 h3 h4 => kwrong_c A hs n ca V h1 h2 h3 h4
end Go.Proofs.Ytcbecpgllebepaa.Crush
