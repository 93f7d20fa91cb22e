/-
  The law CrushMoves over what it takes of the program and of the document's own answer.
-/
import Derived.Test.YtcbecpgllebepaaCrPlacesW
import Derived.Test.YtcbecpgllebepaaCrC
namespace Go.Proofs.Ytcbecpgllebepaa.Crush
set_option linter.unusedVariables false
set_option linter.unusedSimpArgs false
open Go.RowKit Mem Straw

set_option maxRecDepth 100000 in
set_option maxHeartbeats 8000000 in
theorem moves_many (K : Option Addr) (nk ck : Nat) (A : Option Addr) (na ca : Nat) (B : Option Addr) (nb cb : Nat) (many : Int) (W : World) (h4 : 400 < nk)
    (hM : Hid (Calls Try.prog 14 #[.slice K nk ck, .slice A na ca, .slice B nb cb, .int .i64 many] W (Gave (.tuple #[.int .i64 (0 : Int), .int .i64 2]) W))) :
    Calls Try.prog 4 #[.slice K nk ck, .slice A na ca, .slice B nb cb, .int .i64 many] W (Law.Yes W) := by
  have i1 : (400 : Int) < (nk : Int) := by omega
  go_enter Try.func4, Try.ntmps4
  go_wp2_with fail
  refine hM.out.mono ?_
  rintro e w1 ⟨rfl, hb1⟩
  have B1 := Lib.hid hb1
  clear hb1
  go_wp2
  go_ret
  exact ⟨rfl, B1.out⟩
/-- What a placement answers, by cases of its error. -/
theorem e_vals {key : UInt64} {hs : List Ht} {many : Int} {e : Int} (h : plE key hs many = e) : e = 0 ∨ e = 2 ∨ e = 6 ∨ e = 8 := h ▸ plE_vals key hs many
set_option maxRecDepth 100000 in
set_option maxHeartbeats 8000000 in
theorem moves_core (hP : KPlaceSpec) (K : Option Addr) (ks : List UInt64) (nk ck : Nat) (A : Option Addr) (a : List Ht) (na ca : Nat) (B : Option Addr) (b : List Ht) (nb cb : Nat) (many : Int) (W : World)
    (hk : ks.length = nk) (hkb : nk ≤ 400) (hK : Reads W K (ks.map word64)) (ha : a.length = na) (hab : na ≤ 4398046511104) (hac : na ≤ ca) (hA : HRds W A a) (hAf : FitsH a) (hb : b.length = nb) (hbb : nb ≤ 4398046511104) (hbc : nb ≤ cb) (hB : HRds W B b) (hBf : FitsH b)
    (hM : Hid (Calls Try.prog 14 #[.slice K nk ck, .slice A na ca, .slice B nb cb, .int .i64 many] W (Gave (.tuple #[.int .i64 (mvN ks a b many : Nat), .int .i64 (mvE ks a b many)]) W))) :
    Calls Try.prog 4 #[.slice K nk ck, .slice A na ca, .slice B nb cb, .int .i64 many] W (Law.Yes W) := by
  have EM : mvE ks a b many = mvS a b many ks := by unfold mvE; rw [if_neg (by omega)]
  have NM := Lib.hid (show mvE ks a b many = 0 → mvN ks a b many = mvT a b many ks from fun h => by unfold mvN; rw [if_pos h])
  have NZ := Lib.hid (show mvE ks a b many ≠ 0 → mvN ks a b many = 0 from fun h => by unfold mvN; rw [if_neg h])
  have TL := Lib.hid (fun k => Nat.le_trans (mvT_le a b many (ks.take k)) (show 16 * (ks.take k).length ≤ 16 * nk by rw [List.length_take]; omega))
  have P1 := Lib.hid (fun (key : UInt64) V (hB : Below W.heap.size W V) l m e h1 h2 h3 => kplace_named hP key A a na ca many V ha hab hac (hA.below hB) hAf l m e h1 h2 h3)
  have P2 := Lib.hid (fun (key : UInt64) V (hV : Below W.heap.size W V) l m e h1 h2 h3 => kplace_named hP key B b nb cb many V hb hbb hbc (hB.below hV) hBf l m e h1 h2 h3)
  have RK := Lib.hid hK
  have HK := Lib.hid hk
  have ST := Lib.hid (fun k x h => mvS_step (ks := ks) (a := a) (b := b) (many := many) (k := k) (x := x) h)
  have TT := Lib.hid (fun k x h => mvT_step (ks := ks) (a := a) (b := b) (many := many) (k := k) (x := x) h)
  rw [EM] at NM NZ hM
  obtain ⟨E0, hE0⟩ : ∃ E0, E0 = mvS a b many ks := ⟨_, rfl⟩
  obtain ⟨N0, hN0⟩ : ∃ N0, N0 = mvN ks a b many := ⟨_, rfl⟩
  rw [← hE0, ← hN0] at NM NZ hM
  have EE := Lib.hid hE0
  have T0 := Lib.hid (show mvT a b many (ks.take 0) = 0 from rfl)
  have i0 : decide ((400 : Int) < (nk : Int)) = false := by rw [decide_eq_false_iff_not]; omega
  have i1 : ¬ (400 : Int) < (nk : Int) := by omega
  clear EM hk hK ha hA hAf hb hB hBf hE0 hN0
  go_enter Try.func4, Try.ntmps4
  go_wp2_with fail
  refine hM.out.mono ?_
  rintro e w1 ⟨rfl, hb1⟩
  have B1 := Lib.hid hb1
  clear hb1 hM
  go_wp2
  go_loopw [11, 38] (fun c i wr => ∃ k : Nat, k ≤ nk ∧ i = .int .i64 k ∧ c = .int .i64 (mvT a b many (ks.take k) : Nat) ∧ E0 = mvS a b many (ks.drop k) ∧ Below W.heap.size W wr) (fun _ i _ => nk - (intOf i).toNat)
  case atStart => exact ⟨0, by omega, rfl, by rw [T0.out]; rfl, EE.out, B1.out⟩
  case round =>
    obtain ⟨k, hkn, rfl, rfl, hE, hB⟩ := hrel
    have HB := Lib.hid hB
    have HE := Lib.hid hE
    clear hB hE
    by_cases hlt : k < nk
    · have j1 : (k : Int) < (nk : Int) := by omega
      have kl : k < ks.length := by rw [HK.out]; exact hlt
      obtain ⟨x, hx⟩ : ∃ x, ks[k]? = some x := ⟨_, List.getElem?_eq_getElem kl⟩
      obtain ⟨bk, ok, rfl, hbl, z0⟩ := (RK.out.below HB.out) k (word64 x) (by rw [List.getElem?_map, hx]; rfl)
      have z0 : wr.cell? ⟨bk, ok + k, none⟩ = some (.int .u64 (x.toNat : Int)) := z0
      have SS := ST.out k x hx
      have TN := TT.out k x hx
      rw [← HE.out] at SS
      obtain ⟨l1, hl1⟩ : ∃ l1, l1 = plL x a many := ⟨_, rfl⟩
      obtain ⟨l2, hl2⟩ : ∃ l2, l2 = plL x b many := ⟨_, rfl⟩
      obtain ⟨e1, he1⟩ : ∃ e1, e1 = plE x a many := ⟨_, rfl⟩
      obtain ⟨e2, he2⟩ : ∃ e2, e2 = plE x b many := ⟨_, rfl⟩
      have L1 := plL_le16 x a many
      have L2 := plL_le16 x b many
      have Q1 := Lib.hid (fun V hB => P1.out x V hB l1 _ e1 hl1.symm rfl he1.symm)
      have Q2 := Lib.hid (fun V hB => P2.out x V hB l2 _ e2 hl2.symm rfl he2.symm)
      have V1 := e_vals he1.symm
      have V2 := e_vals he2.symm
      rw [← hl1] at L1 TN
      rw [← hl2] at L2 TN
      rw [← he1, ← he2] at SS
      have TB := TL.out k
      obtain ⟨T, hT⟩ : ∃ T, T = mvT a b many (ks.take k) := ⟨_, rfl⟩
      rw [← hT] at TN TB ⊢
      have TN := Lib.hid TN
      obtain ⟨m1, hm1⟩ : ∃ m1, m1 = l1.length := ⟨_, rfl⟩
      obtain ⟨m2, hm2⟩ : ∃ m2, m2 = l2.length := ⟨_, rfl⟩
      rw [← hm1] at L1 Q1
      rw [← hm2] at L2 Q2
      have M1 := Lib.hid hm1
      have M2 := Lib.hid hm2
      have NEG := Lib.hid (fun h => NZ.out h)
      clear hl1 hl2 he1 he2 hT hm1 hm2 hx kl
      have E0V : e1 ≠ 0 → E0 = e1 := fun h => by rw [SS, if_pos h]
      have E0W : e1 = 0 → e2 ≠ 0 → E0 = e2 := fun h h2 => by rw [SS, if_neg (by simpa using h), if_pos h2]
      have E0X := Lib.hid (show e1 = 0 → e2 = 0 → E0 = mvS a b many (ks.drop (k + 1)) from fun h h2 => by rw [SS, if_neg (by simpa using h), if_neg (by simpa using h2)])
      clear SS
      rcases V1 with rfl | h1
      · replace E0W := E0W rfl
        replace E0X := Lib.hid (E0X.out rfl)
        clear E0V
        rcases V2 with rfl | h2
        · replace E0X := Lib.hid (E0X.out rfl)
          clear E0W
          go_wp2_with fail
          refine (Q1.out _ HB.out).mono ?_
          rintro e w2 ⟨A2, c2, rfl, -, hr2, hb2⟩
          have B2 := Lib.hid (HB.out.trans (hb2.mono HB.out.size))
          have R2 := Lib.hid hr2
          clear hb2 hr2
          go_wp2_with fail
          refine (Q2.out _ B2.out).mono ?_
          rintro e w3 ⟨A3, c3, rfl, -, hr3, hb3⟩
          have B3 := Lib.hid (B2.out.trans (hb3.mono B2.out.size))
          have R3 := Lib.hid hr3
          have R2b := Lib.hid (R2.out.below hb3)
          clear hb3 hr3 R2
          go_wp2
          go_loopw [11, 76] (fun c i w4 => ∃ q : Nat, q ≤ m2 ∧ i = .int .i64 q ∧ c = .int .i64 (T + newIn l1 (l2.take q) : Nat) ∧ Below w3.heap.size w3 w4) (fun _ i _ => m2 - (intOf i).toNat)
          case atStart => exact ⟨0, by omega, rfl, by simp [newIn], Below.refl _ _⟩
          case round =>
            obtain ⟨wi, rfl⟩ : ∃ w : World, w = wr := ⟨_, rfl⟩
            obtain ⟨q, hq, rfl, rfl, hB4⟩ := hrel
            have HB4 := Lib.hid hB4
            by_cases hqm : q < m2
            · have i2 : (q : Int) < (m2 : Int) := by omega
              have ql : q < l2.length := by rw [← M2.out]; exact hqm
              obtain ⟨s, hs⟩ : ∃ s, l2[q]? = some s := ⟨_, List.getElem?_eq_getElem ql⟩
              obtain ⟨b3, o3, rfl, _, y0, y1⟩ := (R3.out.below hB4) q s hs
              obtain ⟨s0, s1⟩ := s
              obtain ⟨d0, d1⟩ := boxS wi (.int .i64 s0) (.int .i64 s1)
              have LA := Lib.hid (HB4.out.alloc HB4.out.size (.cells #[.int .i64 s0, .int .i64 s1] 31))
              obtain ⟨C, hC⟩ : ∃ C, C = newIn l1 (l2.take q) := ⟨_, rfl⟩
              have CB : C ≤ 16 := by rw [hC]; exact Nat.le_trans (newIn_le _ _) (by rw [List.length_take]; omega)
              have CN := Lib.hid (show newIn l1 (l2.take (q + 1)) = C + if (s0, s1) ∈ l1 then 0 else 1 by rw [List.take_add_one, hs, hC]; exact newIn_snoc _ _ _)
              rw [← hC]
              have CT := Lib.hid (containsS_c A2 l1 m1 c2 (s0, s1) _ (R2b.out.below LA.out) M1.out.symm (by omega))
              have wv : IntKind.i64.wrap (((T + C : Nat) : Int) + 1) = ((T + C + 1 : Nat) : Int) := by rw [IntWalk.i64_in _ (by omega)]; omega
              obtain ⟨X, hX⟩ : ∃ X, X = T + C := ⟨_, rfl⟩
              have XC := Lib.hid hX
              rw [← hX] at wv ⊢
              clear hC hB4 hs hX
              go_wp2_with fail
              refine CT.out.mono ?_
              rintro e wd ⟨rfl, hbd⟩
              have KD := Lib.hid (LA.out.trans (hbd.mono LA.out.size))
              clear hbd y0 y1 d1 d0
              by_cases hm : (s0, s1) ∈ l1
              · rw [decide_eq_true hm]
                have CC := Lib.hid (show T + newIn l1 (l2.take (q + 1)) = X by rw [CN.out, if_pos hm, XC.out]; rfl)
                clear hm
                go_wp2
                go_roundw
                case rel => exact ⟨q + 1, by omega, by go_num, by rw [CC.out], KD.out⟩
                case measure => simp [intOf]; omega
              · rw [decide_eq_false hm]
                have CC := Lib.hid (show T + newIn l1 (l2.take (q + 1)) = X + 1 by rw [CN.out, if_neg hm, XC.out]; omega)
                clear hm
                go_wp2
                go_roundw
                case rel => exact ⟨q + 1, by omega, by go_num, by rw [CC.out]; go_num, KD.out⟩
                case measure => simp [intOf]; omega
            · obtain rfl : q = m2 := by omega
              have HF := Lib.hid (show T + newIn l1 (l2.take q) = mvT a b many (ks.take (k + 1)) by rw [List.take_of_length_le (by rw [← M2.out]; exact Nat.le_refl _), TN.out])
              rw [HF.out]
              clear hB4
              go_wp2
              go_roundw
              case rel => exact ⟨k + 1, by omega, by go_num, rfl, E0X.out, B3.out.trans (HB4.out.mono B3.out.size)⟩
              case measure => simp [intOf]; omega
        · have hne : e2 ≠ 0 := by omega
          obtain rfl := E0W hne
          obtain rfl := NEG.out hne
          clear E0X hne NM
          rcases h2 with rfl | rfl | rfl
          all_goals
            go_wp2_with fail
            refine (Q1.out _ HB.out).mono ?_
            rintro e w2 ⟨A2, c2, rfl, -, hr2, hb2⟩
            have B2 := Lib.hid (HB.out.trans (hb2.mono HB.out.size))
            clear hb2 hr2
            go_wp2_with fail
            refine (Q2.out _ B2.out).mono ?_
            rintro e w3 ⟨A3, c3, rfl, -, hr3, hb3⟩
            have B3 := Lib.hid (B2.out.trans (hb3.mono B2.out.size))
            clear hb3 hr3
            go_wp2
            go_ret
            exact ⟨rfl, B3.out⟩
      · have hne : e1 ≠ 0 := by omega
        obtain rfl := E0V hne
        obtain rfl := NEG.out hne
        clear E0X E0W hne NM
        rcases h1 with rfl | rfl | rfl
        all_goals
          go_wp2_with fail
          refine (Q1.out _ HB.out).mono ?_
          rintro e w2 ⟨A2, c2, rfl, -, hr2, hb2⟩
          have B2 := Lib.hid (HB.out.trans (hb2.mono HB.out.size))
          clear hb2 hr2
          go_wp2
          go_ret
          exact ⟨rfl, B2.out⟩
    · obtain rfl : k = nk := by omega
      have E0Z : E0 = 0 := by rw [HE.out, List.drop_of_length_le (by rw [HK.out]; exact Nat.le_refl _)]; rfl
      subst E0Z
      have NN := Lib.hid (show mvT a b many (ks.take k) = N0 by rw [NM.out rfl, List.take_of_length_le (by rw [HK.out]; exact Nat.le_refl _)])
      rw [NN.out]
      have n1 : ((N0 : Int) == (N0 : Int)) = true := by simp
      clear NM NZ
      go_wp2
      go_ret
      exact ⟨rfl, HB.out⟩
end Go.Proofs.Ytcbecpgllebepaa.Crush
