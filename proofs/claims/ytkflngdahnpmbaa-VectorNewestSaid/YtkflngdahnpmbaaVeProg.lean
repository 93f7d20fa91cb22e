/-
  Package vector, the program: Newest.
-/
import Derived.Test.YtkflngdahnpmbaaVeProgC
namespace Go.Proofs.Ytkflngdahnpmbaa.Ve
set_option linter.unusedVariables false
set_option linter.unusedSimpArgs false
open Go.RowKit Mem Gt
open Jump (Gave equalZ_c)

theorem ztab_new {V W : World} {C : Option Addr} {m c : Nat} {l : List Int} (h : ZTab W V.heap.size (.slice C m c) l) (hn : l.length = m) : (m ≤ c ∧ c ≤ 9223372036854775807) ∧ ∀ a, C = some a → V.heap.size ≤ a.block := by
  obtain ⟨A', c', e, h1, h2⟩ := h.form
  injection e with e1 e2 e3
  subst e1 e3
  refine ⟨⟨by omega, by unfold maxLen at h2; omega⟩, fun a ha => ?_⟩
  subst ha
  exact (h.lt a.block rfl).1
set_option maxRecDepth 100000 in
set_option maxHeartbeats 8000000 in
theorem newestSpec : NewestSpec := fun A ls n ca V l k e hn ka hbig hx he hl hk => by
  by_cases h4 : 400 < n
  · have e1 : e = 2 := by rw [← he]; unfold newE; rw [if_pos (by omega)]
    subst e1
    rw [if_neg (by decide)] at hl
    subst hl
    obtain rfl : 0 = k := hk
    have i1 : (400 : Int) < (n : Int) := by omega
    clear hn ka hx he h4
    go_enter Try.func11, Try.ntmps11
    go_wp2
    go_ret2
    exact ⟨none, 0, rfl, by simp, VRds.nil, Below.refl _ _⟩
  have e1 : wrongE ls = e := by rw [← he]; unfold newE; rw [if_neg (by omega)]
  have i1 : ¬ (400 : Int) < (n : Int) := by omega
  have P := Lib.hid (wrong_c A ls n ca V e hn hbig hx e1)
  by_cases h0 : e = 0
  · subst h0
    obtain ⟨m, hm⟩ := wrongE_zero.1 e1
    rw [if_pos rfl] at hl
    have HX := Lib.hid hx
    have HN := Lib.hid hn
    have HL := Lib.hid hl
    have HK := Lib.hid hk
    have HW := Lib.hid (fun v hv => (hm v hv).1)
    have HF := Lib.hid (fun v hv => (hm v hv).2.1)
    have H4 := Lib.hid h4
    clear hn ka hx he hl hk hm e1 h4
    go_enter Try.func11, Try.ntmps11
    go_wp2_with fail
    refine P.out.mono ?_
    rintro e w1 ⟨rfl, hw⟩
    rw [hw]
    clear hw
    go_wp2_with fail
    go_loopw [5, 18] (fun s i wr => ∃ (i0 q c : Nat) (A2 : Option Addr), i0 ≤ n ∧ i = .int .i64 i0 ∧ s = .slice A2 q c ∧ (newsTo ls i0).length = q ∧ VTable wr V.heap.size (.slice A2 q c) (newsTo ls i0) ∧ Below V.heap.size V wr) (fun _ i _ => n - (Go.RowKit.intOf i).toNat)
    case atStart => exact ⟨0, 0, 0, none, by omega, rfl, rfl, rfl, VTable.nil _ _, Below.refl _ _⟩
    case round =>
      obtain ⟨i, q, c, A2, hi, rfl, rfl, hq, hT, hB⟩ := hrel
      have HQ := Lib.hid hq
      have HT := Lib.hid hT
      have BB := Lib.hid hB
      clear hq hT
      by_cases hlt : i < n
      · have kl : i < ls.length := by rw [HN.out]; exact hlt
        obtain ⟨a, ha⟩ : ∃ a, ls[i]? = some a := ⟨_, List.getElem?_eq_getElem kl⟩
        obtain ⟨b1, o1, C, ac, rfl, _, y0, hlc, hc, hrd⟩ := (HX.out.below hB).row ha
        have hal := HW.out a (List.mem_of_getElem? ha)
        have hm16 := HF.out a (List.mem_of_getElem? ha)
        rw [hal] at y0 hlc hc
        obtain ⟨r, hr⟩ : ∃ r, (topTo ls a && newTo (newsTo ls i) a) = r := ⟨_, rfl⟩
        have N := Lib.hid (isnewest_d _ ls n ca i a m wr r HN.out hbig (HX.out.below hB) HW.out ha hr)
        have ST := Lib.hid (newsTo_step ha)
        rw [hr] at ST
        have LQ := Lib.hid (newsTo_len ls i)
        have CL := Lib.hid (fun w (h : Below wr.heap.size wr w) => clone_z C a m ac w hal (by omega) (hrd.below h))
        have HAL := Lib.hid hal
        have HM := Lib.hid hm16
        have j1 : (i : Int) < (n : Int) := by omega
        clear kl ha hal hm16 hrd hr hB
        cases r with
        | false =>
          have S2 := Lib.hid (show newsTo ls (i + 1) = newsTo ls i by rw [ST.out]; rfl)
          clear ST CL
          go_wp2_with fail
          refine N.out.mono ?_
          rintro e w2 ⟨rfl, hd⟩
          have T2 := Lib.hid (HT.out.later (hd.below _))
          have B2 := Lib.hid (BB.out.trans (hd.below V.heap.size))
          clear hd
          go_wp2
          go_roundw
          case rel => exact ⟨i + 1, q, c, A2, by omega, by go_num, rfl, by rw [S2.out]; exact HQ.out, by rw [S2.out]; exact T2.out, B2.out⟩
          case measure => simp [Go.RowKit.intOf]; omega
        | true =>
          have S2 := Lib.hid (show newsTo ls (i + 1) = newsTo ls i ++ [a] by rw [ST.out]; rfl)
          clear ST
          go_wp2_with fail
          refine N.out.mono ?_
          rintro e w2 ⟨rfl, hd⟩
          have T2 := Lib.hid (HT.out.later (hd.below _))
          have B2 := Lib.hid (BB.out.trans (hd.below V.heap.size))
          have C2 := Lib.hid (CL.out w2 (hd.below _))
          clear hd CL
          go_wp2_with fail
          refine C2.out.mono ?_
          rintro e w3 ⟨A3, c3, rfl, hz, hb⟩
          have NW := Lib.hid (ztab_new hz HAL.out)
          have VO := Lib.hid (T2.out.row_new hb (C := A3) (c := c3) (r := a) hz.reads (by rw [HAL.out]; exact NW.out.1) (by rw [HAL.out]; have := HM.out; omega) NW.out.2)
          rw [HAL.out] at VO
          have T3 := Lib.hid (T2.out.later hb)
          have B3 := Lib.hid (B2.out.trans (hb.mono B2.out.size))
          clear hz hb
          go_wp2_with (at_builtin; refine wpList_append_vec rfl (.tmp 26) (.tmp 29) rfl rfl rfl T3.out VO.out ?c1 B3.out.size B3.out (Nat.le_refl _) ?_)
          case c1 => have := LQ.out; omega
          intro v' w5 hT5 hB5
          obtain ⟨A5, c5, hv, _, _⟩ := hT5.out.form
          rw [List.length_append, HQ.out] at hv
          subst hv
          have B5 := Lib.hid hB5
          clear hB5
          go_wp2
          go_roundw
          case rel => exact ⟨i + 1, q + 1, c5, A5, by omega, by go_num, rfl, by rw [S2.out, List.length_append, HQ.out]; rfl, by rw [S2.out]; exact hT5.out, B5.out⟩
          case measure => simp [Go.RowKit.intOf]; omega
      · obtain rfl : i = n := by omega
        have E := Lib.hid (newsTo_all HN.out)
        rw [E.out, HL.out] at HQ HT
        obtain rfl : q = k := HQ.out.symm.trans HK.out
        have R := Lib.hid HT.out.rds
        have CB := Lib.hid (show q ≤ c ∧ c ≤ 9223372036854775807 by
          obtain ⟨A', c', e1, e2, e3⟩ := HT.out.form
          injection e1 with e4 e5 e6
          subst e6
          unfold maxLen at e3
          have := HQ.out
          omega)
        clear hB
        go_wp2
        go_ret2
        exact ⟨A2, c, rfl, CB.out, R.out, BB.out⟩
  · rw [if_neg h0] at hl
    subst hl
    obtain rfl : 0 = k := hk
    have q1 : (e != 0) = true := by simpa using h0
    clear hn ka hx he h0 h4 e1
    go_enter Try.func11, Try.ntmps11
    go_wp2_with fail
    refine P.out.mono ?_
    rintro e w1 ⟨rfl, hw⟩
    rw [hw]
    clear hw
    go_wp2
    go_ret2
    exact ⟨none, 0, rfl, by simp, VRds.nil, Below.refl _ _⟩
end Go.Proofs.Ytkflngdahnpmbaa.Ve
