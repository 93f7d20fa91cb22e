/-
  The law SynodLive over what it takes of the program.
-/
import Derived.Test.YtpoielmbdofjlaaSyClone
import Derived.Laws.BitsLemmas
import Derived.Deep.CutBlock
namespace Go.Proofs.Ytpoielmbdofjlaa.Syn
set_option linter.unusedVariables false
set_option linter.unusedSimpArgs false
open Go.RowKit Mem Gt
open Jump (Gave equalZ_c)

theorem play_live {m : Int} {l : List VO} {n h tt : Nat} {v : Int} (hn : l.length = n) (h1 : 1 ≤ m) (h16 : m ≤ 16) (hn2 : n ≤ 398) (hh : h < 400) (ho : ∀ o ∈ l, o.2.1 ≤ (h : Int)) (hb : m.toNat < 2 * (bits m.toNat tt).length) :
    playE m n = 0 ∧ playE m (n + 2) = 0 ∧ (playA m (l ++ [(1, (h : Int) + 1, tt, v), (2, (h : Int) + 1, tt, 0)])).length = n + 2 ∧
      (∃ x, (playA m (l ++ [(1, (h : Int) + 1, tt, v), (2, (h : Int) + 1, tt, 0)]))[n + 1]? = some x ∧ x.1 = 0) ∧ ∃ x, playC m (l ++ [(1, (h : Int) + 1, tt, v), (2, (h : Int) + 1, tt, 0)]) = playC m l ++ [x] := by
  have e0 : playE m n = 0 := by unfold playE; rw [if_neg (by omega)]
  have e2 : playE m (n + 2) = 0 := by unfold playE; rw [if_neg (by omega)]
  have len2 : (l ++ [(1, (h : Int) + 1, tt, v), (2, (h : Int) + 1, tt, 0)]).length = n + 2 := by simp [hn]
  obtain ⟨q1, q2, x, q3⟩ := lives (n := m.toNat) (v := v) hh ho hb
  refine ⟨e0, e2, ?_, ?_, x, ?_⟩
  · unfold playA; rw [len2, if_pos e2, run_len, len2]
  · unfold playA
    rw [len2, if_pos e2, run_app]
    refine ⟨(step m.toNat (step m.toNat (run m.toNat S0 l).1 (1, (h : Int) + 1, tt, v)).1 (2, (h : Int) + 1, tt, 0)).2, ?_, ?_⟩
    · rw [List.getElem?_append_right (by rw [run_len]; omega), run_len, hn, show n + 1 - n = 1 by omega]
      rfl
    · unfold step at q2 ⊢
      rw [if_pos q2]
  · unfold playC
    rw [len2, if_pos e2, hn, if_pos e0, run_app]
    exact q3
theorem bits_succ (tt k : Nat) : (tt.testBit k = true → (bits (k + 1) tt).length = (bits k tt).length + 1) ∧ (tt.testBit k = false → (bits (k + 1) tt).length = (bits k tt).length) := by
  unfold bits
  rw [List.range_succ, List.filter_append]
  exact ⟨fun h => by simp [h], fun h => by simp [h]⟩
theorem bits_le (tt k : Nat) : (bits k tt).length ≤ k := by
  have := List.length_filter_le (fun k => tt.testBit k) (List.range k)
  simpa [bits] using this
theorem wraps_u16 (n : Int) (h₀ : 0 ≤ n) (h₁ : n < 2 ^ 16) : IntKind.u16.wrap n = n := by simp [IntKind.wrap, IntKind.bits, IntKind.signed]; omega
theorem and_one16 {a : Nat} (ha : a < 65536) : Go.bits .and .u16 (a : Int) 1 = ((a % 2 : Nat) : Int) := by
  have := (bits_nat .u16 16 (by decide) wraps_u16 a 1 ha (by decide)).1
  rw [Nat.and_one_is_mod] at this
  exact this
set_option maxRecDepth 100000 in
set_option maxHeartbeats 16000000 in
theorem live_w (hP : PlaySpec) (m : Int) (A : Option Addr) (l : List VO) (n ca tt : Nat) (v : Int) (W : World) (hm : Fit m) (hn : l.length = n) (hbig : n ≤ 4398046511104) (hx : Reads W A (flat voE l)) (hf : FitOs l) (hto : tt < 65536) (hv : Fit v) :
    Calls Try.prog 6 #[.int .i64 m, .slice A n ca, .int .u16 (tt : Nat), .int .i64 v] W (Law.Yes W) := by
  have AL := Lib.hid (fun V => alive_c hP V)
  have HX := Lib.hid hx
  have HN := Lib.hid hn
  have HF := Lib.hid hf
  by_cases hr : m < 1 ∨ 16 < m
  · by_cases h1 : m < 1
    · have g1 : decide (m < 1) = true := decide_eq_true h1
      clear hx hf hn hm hr
      go_enter Try.func6, Try.ntmps6
      go_wp2_with fail
      refine (AL.out _).mono ?_
      rintro e w1 ⟨rfl, hb⟩
      have B1 := Lib.hid hb
      clear hb
      go_wp2
      go_ret
      exact ⟨rfl, B1.out⟩
    · have g1 : decide (m < 1) = false := decide_eq_false h1
      have h2 : 16 < m := by omega
      have g2 : decide (16 < m) = true := decide_eq_true h2
      clear hx hf hn hm hr
      go_enter Try.func6, Try.ntmps6
      go_wp2_with fail
      refine (AL.out _).mono ?_
      rintro e w1 ⟨rfl, hb⟩
      have B1 := Lib.hid hb
      clear hb
      go_wp2
      go_ret
      exact ⟨rfl, B1.out⟩
  · obtain ⟨M, rfl⟩ : ∃ M : Nat, m = M := ⟨m.toNat, by omega⟩
    have M1 := Lib.hid (show 1 ≤ M ∧ M ≤ 16 by omega)
    have g1 : decide ((M : Int) < 1) = false := decide_eq_false (by omega)
    have g1n : decide (M < 1) = false := decide_eq_false (by omega)
    have g1z : decide (M = 0) = false := decide_eq_false (by omega)
    have g2 : decide ((16 : Int) < (M : Int)) = false := decide_eq_false (by omega)
    have g2n : decide (16 < M) = false := decide_eq_false (by omega)
    have CL := Lib.hid (fun V (h : Below W.heap.size W V) => clone_vo A l n ca V hn hbig (hx.below h))
    have HM := Lib.hid hm
    have HV := Lib.hid hv
    have HT := Lib.hid hto
    have NB := Lib.hid hbig
    have BS := Lib.hid (fun k => bits_succ tt k)
    have BL := Lib.hid (fun k => bits_le tt k)
    clear hx hf hn hm hr hv hto hbig
    go_enter Try.func6, Try.ntmps6
    go_wp2_with fail
    refine (AL.out _).mono ?_
    rintro e w1 ⟨rfl, hb⟩
    have B1 := Lib.hid hb
    clear hb
    go_upto_block 0 with fail
    go_cut [9] (fun h_ wx => ∃ h : Int, h_ = .int .i64 h ∧ 0 ≤ h ∧ Fit h ∧ (∀ o ∈ l, o.2.1 ≤ h) ∧ Below W.heap.size W wx)
    case first =>
      go_wp2_with fail
      go_loopw [9, 30] (fun h_ i_ V => ∃ (h : Int) (k : Nat), h_ = .int .i64 h ∧ i_ = .int .i64 k ∧ k ≤ n ∧ 0 ≤ h ∧ Fit h ∧ (∀ o ∈ l.take k, o.2.1 ≤ h) ∧ Below W.heap.size W V) (fun h_ i_ _ => n - (intOf i_).toNat)
      case atStart => exact ⟨0, 0, rfl, rfl, Nat.zero_le _, by omega, by unfold Fit; omega, fun o h => by simp at h, B1.out⟩
      case round =>
        obtain ⟨h, k, rfl, rfl, hk, h0, hfit, hall, hB⟩ := hrel
        have FH := Lib.hid hfit
        have HA := Lib.hid hall
        have H0 := Lib.hid h0
        have BB := Lib.hid hB
        clear hfit hall h0
        by_cases hlt : k < n
        · have kl : k < l.length := by rw [HN.out]; exact hlt
          obtain ⟨⟨a, b, c, d⟩, hx⟩ : ∃ x, l[k]? = some x := ⟨_, List.getElem?_eq_getElem kl⟩
          have xf := HF.out _ (List.mem_of_getElem? hx)
          obtain ⟨b1, o1, rfl, hb1, y0, y1, y2, y3⟩ := vo_at (HX.out.below hB) hx
          have i1 : (k : Int) < (n : Int) := by omega
          have wk : IntKind.i64.wrap ((k : Int) + 1) = ((k + 1 : Nat) : Int) := by rw [show (k : Int) + 1 = ((k + 1 : Nat) : Int) by omega]; exact IntWalk.i64_in _ (by have := NB.out; omega)
          have FB := Lib.hid xf.2.1
          have KL := Lib.hid hlt
          have B2 := Lib.hid (show Below W.heap.size W (wr.alloc (.cells #[.int .i64 a, .int .i64 b, .int .u16 (c : Nat), .int .i64 d] 37)) from hB.alloc hB.size _)
          have TS := Lib.hid (fun o (ho : o ∈ l.take (k + 1)) => show o ∈ l.take k ∨ o = (a, b, c, d) by
            rw [List.take_add_one, hx] at ho
            rcases List.mem_append.1 ho with ho | ho
            · exact .inl ho
            · simp at ho; exact .inr ho)
          by_cases hle : b ≤ h
          · have mx : max h b = h := by omega
            have HN2 := Lib.hid (fun o (ho : o ∈ l.take (k + 1)) => show o.2.1 ≤ h by
              rcases TS.out o ho with ho | ho
              · exact HA.out o ho
              · rw [ho]; exact hle)
            clear hle hx xf kl hB hb1
            go_wp2
            go_roundw
            case rel => exact ⟨h, k + 1, by first | rfl | simp [mx], by first | rfl | go_num, by have := KL.out; omega, H0.out, FH.out, HN2.out, B2.out⟩
            case measure => have := KL.out; simp [intOf] <;> omega
          · have mx : max h b = b := by omega
            have HN2 := Lib.hid (fun o (ho : o ∈ l.take (k + 1)) => show o.2.1 ≤ b by
              rcases TS.out o ho with ho | ho
              · have := HA.out o ho; omega
              · rw [ho]; exact Int.le_refl _)
            have H1 := Lib.hid (show 0 ≤ b by have := H0.out; omega)
            clear hle hx xf kl hB hb1
            go_wp2
            go_roundw
            case rel => exact ⟨b, k + 1, by first | rfl | simp [mx], by first | rfl | go_num, by have := KL.out; omega, H1.out, FB.out, HN2.out, B2.out⟩
            case measure => have := KL.out; simp [intOf] <;> omega
        · obtain rfl : k = n := by omega
          have HA2 := Lib.hid (show ∀ o ∈ l, o.2.1 ≤ h by have := HA.out; rwa [List.take_of_length_le (by rw [HN.out]; exact Nat.le_refl _)] at this)
          clear hlt hB
          go_wp2
          go_meet
          exact ⟨h, rfl, H0.out, FH.out, HA2.out, BB.out⟩
    case rest =>
      obtain ⟨h, rfl, h0, hfit, hall, hB⟩ := hcut
      have FH := Lib.hid hfit
      have HA := Lib.hid hall
      have H0 := Lib.hid h0
      have B2 := Lib.hid hB
      obtain ⟨V1, hV⟩ : ∃ V : World, V = wc := ⟨_, rfl⟩
      rw [← hV] at B2 ⊢
      clear hfit hall h0 hB hV
      go_upto_block 2 with fail
      go_cut [12] (fun c_ wx => c_ = .int .i64 ((bits M tt).length : Nat) ∧ wx = V1)
      case first =>
        go_wp2_with fail
        go_loopw [12, 40] (fun c_ k_ V => ∃ k c : Nat, c_ = .int .i64 c ∧ k_ = .int .i64 k ∧ k ≤ M ∧ c = (bits k tt).length ∧ V = V1) (fun c_ k_ _ => M - (intOf k_).toNat)
        case atStart => exact ⟨0, 0, rfl, rfl, Nat.zero_le _, rfl, rfl⟩
        case round =>
          obtain ⟨k, c, rfl, rfl, hk, hc, hw⟩ := hrel
          rw [hw]
          clear hw
          have CE := Lib.hid hc
          have c16 : c ≤ k := by rw [hc]; exact BL.out k
          by_cases hlt : k < M
          · have i1 : (k : Int) < (M : Int) := by omega
            have k16 : k < 16 := by have := M1.out; omega
            have KL := Lib.hid hlt
            obtain ⟨q, hq⟩ : ∃ q, q = tt / 2 ^ k := ⟨_, rfl⟩
            have q1 : q < 65536 := by rw [hq]; exact Nat.lt_of_le_of_lt (Nat.div_le_self _ _) HT.out
            have e1 : (tt : Int) / 2 ^ k = (q : Int) := by rw [hq]; simp
            obtain ⟨y, hy⟩ : ∃ y, y = q % 2 := ⟨_, rfl⟩
            have a1 : Go.bits .and .u16 (q : Int) 1 = (y : Int) := by rw [hy]; exact and_one16 q1
            have wk : IntKind.i64.wrap ((k : Int) + 1) = ((k + 1 : Nat) : Int) := by rw [show (k : Int) + 1 = ((k + 1 : Nat) : Int) by omega]; exact IntWalk.i64_in _ (by omega)
            have wc : IntKind.i64.wrap ((c : Int) + 1) = ((c + 1 : Nat) : Int) := by rw [show (c : Int) + 1 = ((c + 1 : Nat) : Int) by omega]; exact IntWalk.i64_in _ (by omega)
            have hbit : tt.testBit k = decide (y = 1) := by rw [Nat.testBit_eq_decide_div_mod_eq, hy, hq]
            by_cases hy1 : y = 1
            · have j1 : ((y : Int) == 1) = true := by simp; omega
              have CN := Lib.hid (show c + 1 = (bits (k + 1) tt).length by rw [(BS.out k).1 (by rw [hbit]; exact decide_eq_true hy1), ← CE.out])
              clear hq hy hbit hy1 hc hlt
              go_wp2
              go_roundw
              case rel => exact ⟨k + 1, c + 1, by first | rfl | go_num, by first | rfl | go_num, by have := KL.out; omega, CN.out, by first | rfl | trivial⟩
              case measure => have := KL.out; simp [intOf] <;> omega
            · have j1 : ((y : Int) == 1) = false := by simp; omega
              have CN := Lib.hid (show c = (bits (k + 1) tt).length by rw [(BS.out k).2 (by rw [hbit]; exact decide_eq_false hy1), ← CE.out])
              clear hq hy hbit hy1 hc hlt
              go_wp2
              go_roundw
              case rel => exact ⟨k + 1, c, rfl, by first | rfl | go_num, by have := KL.out; omega, CN.out, by first | rfl | trivial⟩
              case measure => have := KL.out; simp [intOf] <;> omega
          · obtain rfl : k = M := by omega
            clear hlt hc
            go_wp2
            go_meet
            exact ⟨by rw [CE.out], rfl⟩
      case rest =>
        obtain ⟨rfl, hw⟩ := hcut
        rw [hw]
        clear hw
        obtain ⟨c, hc⟩ : ∃ c, c = (bits M tt).length := ⟨_, rfl⟩
        rw [← hc]
        have C16 := Lib.hid (show c ≤ 16 by rw [hc]; have := BL.out M; have := M1.out; omega)
        have CE := Lib.hid hc
        clear hc
        obtain ⟨e2, he2⟩ : ∃ e2, e2 = 2 * c := ⟨_, rfl⟩
        have we : IntKind.i64.wrap (2 * (c : Int)) = (e2 : Int) := by rw [show 2 * (c : Int) = (e2 : Int) by omega]; exact IntWalk.i64_in _ (by have := C16.out; omega)
        by_cases hA : e2 ≤ M
        · have j1 : decide ((e2 : Int) ≤ (M : Int)) = true := decide_eq_true (by omega)
          have j1n : decide (e2 ≤ M) = true := decide_eq_true hA
          clear hA he2
          go_wp2
          go_ret
          exact ⟨rfl, B2.out⟩
        · have j1 : decide ((e2 : Int) ≤ (M : Int)) = false := decide_eq_false (by omega)
          have j1n : decide (e2 ≤ M) = false := decide_eq_false hA
          by_cases hB : 400 ≤ h
          · have j2 : decide (400 ≤ h) = true := decide_eq_true hB
            clear hA he2 hB
            go_wp2
            go_ret
            exact ⟨rfl, B2.out⟩
          · have j2 : decide (400 ≤ h) = false := decide_eq_false hB
            by_cases hC : 398 < n
            · have j3 : decide ((398 : Int) < (n : Int)) = true := decide_eq_true (by omega)
              have j3n : decide (398 < n) = true := decide_eq_true hC
              clear hA he2 hB hC
              go_wp2
              go_ret
              exact ⟨rfl, B2.out⟩
            · have j3 : decide ((398 : Int) < (n : Int)) = false := decide_eq_false (by omega)
              have j3n : decide (398 < n) = false := decide_eq_false hC
              obtain ⟨H, hH⟩ : ∃ H : Nat, h = H := ⟨h.toNat, by have := H0.out; omega⟩
              subst hH
              have j2n : decide (400 ≤ H) = false := decide_eq_false (by omega)
              have HH := Lib.hid (show H < 400 by omega)
              have N398 := Lib.hid (show n ≤ 398 by omega)
              obtain ⟨hk0, hk2, q1, ⟨⟨z0, z1, z2⟩, q2, q3⟩, x, q4⟩ := play_live (v := v) HN.out (show (1 : Int) ≤ (M : Int) by have := M1.out; omega) (show (M : Int) ≤ 16 by have := M1.out; omega) N398.out HH.out HA.out (show M < 2 * (bits M tt).length by rw [← CE.out]; omega)
              have q3 : z0 = 0 := q3
              subst q3
              obtain ⟨al, hal⟩ : ∃ al, playA M l = al := ⟨_, rfl⟩
              obtain ⟨na, hna⟩ : ∃ na, al.length = na := ⟨_, rfl⟩
              obtain ⟨ds, hds⟩ : ∃ cs, playC M l = cs := ⟨_, rfl⟩
              obtain ⟨nd, hnd⟩ : ∃ nc, ds.length = nc := ⟨_, rfl⟩
              obtain ⟨bl, hbl⟩ : ∃ bl, playA M (l ++ [(1, (H : Int) + 1, tt, v), (2, (H : Int) + 1, tt, 0)]) = bl := ⟨_, rfl⟩
              obtain ⟨cs, hcs⟩ : ∃ ds, playC M (l ++ [(1, (H : Int) + 1, tt, v), (2, (H : Int) + 1, tt, 0)]) = ds := ⟨_, rfl⟩
              rw [hbl] at q1 q2
              rw [hcs, hds] at q4
              have hnc : cs.length = nd + 1 := by rw [q4, List.length_append, hnd]; rfl
              have ND := Lib.hid (show nd ≤ 400 by rw [← hnd, ← hds]; exact playC_len _ _)
              have len2 : (l ++ [(1, (H : Int) + 1, tt, v), (2, (H : Int) + 1, tt, 0)]).length = n + 2 := by simp [HN.out]
              have FP := Lib.hid (show FitOs (l ++ [(1, (H : Int) + 1, tt, v), (2, (H : Int) + 1, tt, 0)]) from fun o ho => by
                have h1 := HH.out
                have h2 := HT.out
                rcases List.mem_append.1 ho with ho | ho
                · exact HF.out o ho
                · simp at ho
                  have fv := HV.out
                  unfold FitO Fit
                  unfold Fit at fv
                  rcases ho with rfl | rfl
                  · exact ⟨by omega, by show _ ≤ (H : Int) + 1 ∧ (H : Int) + 1 ≤ _; omega, h2, fv⟩
                  · exact ⟨by omega, by show _ ≤ (H : Int) + 1 ∧ (H : Int) + 1 ≤ _; omega, h2, by show _ ≤ (0 : Int) ∧ (0 : Int) ≤ _; omega⟩)
              have P1 := Lib.hid (fun V (h : Reads V A (flat voE l)) => hP M A l n ca V al na ds nd 0 HM.out HN.out (by have := N398.out; omega) h HF.out hk0 hal hna hds hnd)
              have P2 := Lib.hid (fun A c V (h : Reads V A (flat voE (l ++ [(1, (H : Int) + 1, tt, v), (2, (H : Int) + 1, tt, 0)]))) => hP M A _ (n + 2) c V bl (n + 2) cs (nd + 1) 0 HM.out len2 (by have := N398.out; omega) h FP.out hk2 hbl q1 hcs hnc)
              have Q2 := Lib.hid q2
              have Q4 := Lib.hid q4
              have HD := Lib.hid hnd
              have ONE := Lib.hid (fun y (h1 : y ∈ cs) (h2 : x ∈ cs) => playC_one (m := M) (hcs ▸ h1) (hcs ▸ h2))
              have wh : IntKind.i64.wrap ((H : Int) + 1) = (H : Int) + 1 := IntWalk.i64_in _ (by have := HH.out; omega)
              have wn2 : IntKind.i64.wrap ((n : Int) + 2) = ((n + 2 : Nat) : Int) := by rw [show (n : Int) + 2 = ((n + 2 : Nat) : Int) by omega]; exact IntWalk.i64_in _ (by have := N398.out; omega)
              have wn1 : IntKind.i64.wrap ((n : Int) + 1) = ((n + 1 : Nat) : Int) := by rw [show (n : Int) + 1 = ((n + 1 : Nat) : Int) by omega]; exact IntWalk.i64_in _ (by have := N398.out; omega)
              have wd : IntKind.i64.wrap ((nd : Int) + 1) = ((nd + 1 : Nat) : Int) := by rw [show (nd : Int) + 1 = ((nd + 1 : Nat) : Int) by omega]; exact IntWalk.i64_in _ (by have := ND.out; omega)
              clear hA he2 hB hC hk0 hk2 q1 q2 q4 hal hna hds hnd hbl hcs hnc len2
              go_wp2_with fail
              refine (P1.out _ (HX.out.below B2.out)).mono ?_
              rintro e w2 ⟨A2, a2, D2, d2, rfl, _, _, hd, hb⟩
              have B3 := Lib.hid (B2.out.trans (hb.mono B2.out.size))
              have RD := Lib.hid hd
              clear hd hb
              go_wp2_with (first | (go_at_call 15; refine (CL.out _ B3.out).mono ?_; rintro e w3 ⟨A3, c3, rfl, hT, hb⟩; have T3 := Lib.hid hT; have K3 := Lib.hid (show Below w2.heap.size w2 w3 from hb); clear hT hb) | (refine wpList_append_gm elVO (by decide) rfl _ _ (by rfl) (n := n) (m := 2) (c := 2) (b := w3.heap.size) (o' := 0) (v := .slice A3 n c3) (es := l) (ys := [(1, (H : Int) + 1, tt, v), (2, (H : Int) + 1, tt, 0)]) (AD := some ⟨w3.heap.size, 0, none⟩) (by rfl) (by rfl) rfl (T3.out.alloc _) HN.out (reads_lit w3 _ rfl) rfl (by have := N398.out; unfold maxLen; omega) (by have := N398.out; omega) (by have := K3.out.size; simp; omega) ?_; intro A4 c4 w4 T4 G4; have K4 := Lib.hid ((T3.out.alloc _).below G4.out (K3.out.alloc K3.out.size _) (by simp) (by have := K3.out.size; simp; omega))))
              refine (P2.out _ _ _ T4.out.reads).mono ?_
              rintro e w5 ⟨A6, a6, C6, c6, rfl, _, ha, hc, hb⟩
              have K5 := Lib.hid (K4.out.trans (hb.mono K4.out.size))
              have RC := Lib.hid hc
              have BZ := Lib.hid (B3.out.trans (K5.out.mono B3.out.size))
              obtain ⟨b1, p1, rfl, hb1, y1, _, _⟩ := an_at ha Q2.out
              have hxm : x ∈ cs := by rw [Q4.out]; simp
              obtain ⟨b2, p2, rfl, _, y2⟩ := z_at RC.out (k := nd) (x := x) (by rw [Q4.out, List.getElem?_append_right (by rw [HD.out]; exact Nat.le_refl _), HD.out]; simp)
              have i1 : (n + 1 : Nat) < n + 2 := by omega
              have i1i : (((n + 1 : Nat)) : Int) < ((n + 2 : Nat) : Int) := by omega
              have i2 : nd < nd + 1 := by omega
              have i2i : (nd : Int) < ((nd + 1 : Nat) : Int) := by omega
              have j5 : (((nd + 1 : Nat) : Int) == ((nd + 1 : Nat) : Int)) = true := by simp
              have j6 : (((n + 2 : Nat) : Int) != ((n + 2 : Nat) : Int)) = false := by simp
              clear ha hc hb hb1
              rcases Nat.eq_zero_or_pos nd with h0 | h0
              · subst h0
                have j7 : (((0 : Nat) : Int) == 0) = true := rfl
                clear y2 hxm
                go_wp2
                go_quiet (fail)
                go_wp2
                go_ret
                exact ⟨rfl, below_drewN BZ.out _⟩
              · obtain ⟨y, hy⟩ : ∃ y, ds[0]? = some y := ⟨_, List.getElem?_eq_getElem (by rw [HD.out]; exact h0)⟩
                obtain rfl : y = x := ONE.out y (by rw [Q4.out]; exact List.mem_append_left _ (List.mem_of_getElem? hy)) hxm
                obtain ⟨b3, p3, rfl, _, y3⟩ := z_at (RD.out.below K5.out) hy
                rw [Nat.add_zero] at y3
                have j7 : ((nd : Int) == 0) = false := by simp; omega
                have j8 : ((y : Int) == y) = true := by simp
                have i3 : (0 : Int) < (nd : Int) := by omega
                have i3n : 0 < nd := h0
                clear hy hxm
                go_wp2
                go_quiet (fail)
                go_wp2
                go_ret
                exact ⟨rfl, below_drewN BZ.out _⟩
end Go.Proofs.Ytpoielmbdofjlaa.Syn
