/-
  The law SynodStays over what it takes of the program.
-/
import Derived.Test.YtpoielmbdofjlaaSyOneW
import Derived.BigQuiet
namespace Go.Proofs.Ytpoielmbdofjlaa.Syn
set_option linter.unusedVariables false
set_option linter.unusedSimpArgs false
open Go.RowKit Mem Gt
open Jump (Gave equalZ_c)

theorem play_take {m : Int} {l : List VO} {n j : Nat} (hn : l.length = n) (hj : j ≤ n) (h : playE m n = 0) :
    playE m j = 0 ∧ (playA m l).length = n ∧ (playA m l).take j = playA m (l.take j) ∧ ∀ x t, playC m (l.take j) = x :: t → ∃ t', playC m l = x :: t' := by
  have hv := playE_vals m n
  have h2 : playE m j = 0 := by
    rcases hv with ⟨_, h1, h2, h3⟩ | h2
    · unfold playE; rw [if_neg (by omega)]
    · rw [h] at h2; cases h2
  have ht : (l.take j).length = j := by rw [List.length_take]; omega
  have e : l = l.take j ++ l.drop j := (List.take_append_drop j l).symm
  refine ⟨h2, ?_, ?_, fun x t hx => ?_⟩
  · unfold playA
    rw [hn, if_pos h, run_len, hn]
  · unfold playA
    rw [hn, if_pos h, ht, if_pos h2]
    conv => lhs; rw [e, run_app]
    show ((run m.toNat S0 (l.take j)).2 ++ _).take j = _
    rw [List.take_left' (by rw [run_len, ht])]
  · unfold playC at hx ⊢
    rw [ht, if_pos h2] at hx
    rw [hn, if_pos h]
    obtain ⟨t', h3⟩ := first_stays (l.take j) (l.drop j) hx
    rw [← e] at h3
    exact ⟨t', h3⟩
set_option maxRecDepth 100000 in
set_option maxHeartbeats 8000000 in
theorem stays_w (hP : PlaySpec) (m : Int) (A : Option Addr) (l : List VO) (n ca : Nat) (j : Int) (W : World) (hm : Fit m) (hn : l.length = n) (hbig : n ≤ 4398046511104) (hca : n ≤ ca) (hx : Reads W A (flat voE l)) (hf : FitOs l) :
    Calls Try.prog 5 #[.int .i64 m, .slice A n ca, .int .i64 j] W (Law.Yes W) := by
  have AL := Lib.hid (fun V => alive_c hP V)
  by_cases hj : j < 0 ∨ (n : Int) < j
  · by_cases h0 : j < 0
    · have g0 : decide (j < 0) = true := decide_eq_true h0
      clear hx hf hj
      go_enter Try.func5, Try.ntmps5
      go_wp2_with fail
      refine (AL.out _).mono ?_
      rintro e w1 ⟨rfl, hb⟩
      have B1 := Lib.hid hb
      clear hb
      go_wp2
      go_ret
      exact ⟨rfl, B1.out⟩
    · have g0 : decide (j < 0) = false := decide_eq_false h0
      have h1 : (n : Int) < j := by omega
      have g1 : decide ((n : Int) < j) = true := decide_eq_true h1
      clear hx hf hj
      go_enter Try.func5, Try.ntmps5
      go_wp2_with fail
      refine (AL.out _).mono ?_
      rintro e w1 ⟨rfl, hb⟩
      have B1 := Lib.hid hb
      clear hb
      go_wp2
      go_ret
      exact ⟨rfl, B1.out⟩
  · obtain ⟨i, rfl⟩ : ∃ i : Nat, j = i := ⟨j.toNat, by omega⟩
    have hin : i ≤ n := by omega
    have g0 : decide ((i : Int) < 0) = false := decide_eq_false (by omega)
    have g1 : decide ((n : Int) < (i : Int)) = false := decide_eq_false (by omega)
    have g1n : decide (n < i) = false := decide_eq_false (by omega)
    have i1 : (i : Int) ≤ (n : Int) := by omega
    have i2 : (i : Int) ≤ (ca : Int) := by omega
    have i3 : i ≤ ca := by omega
    have htl : (l.take i).length = i := by rw [List.length_take]; omega
    obtain ⟨al, hal⟩ : ∃ al, playA m l = al := ⟨_, rfl⟩
    obtain ⟨na, hna⟩ : ∃ na, al.length = na := ⟨_, rfl⟩
    obtain ⟨cs, hcs⟩ : ∃ cs, playC m l = cs := ⟨_, rfl⟩
    obtain ⟨nc, hnc⟩ : ∃ nc, cs.length = nc := ⟨_, rfl⟩
    obtain ⟨bl, hbl⟩ : ∃ bl, playA m (l.take i) = bl := ⟨_, rfl⟩
    obtain ⟨nb, hnb⟩ : ∃ nb, bl.length = nb := ⟨_, rfl⟩
    obtain ⟨ds, hds⟩ : ∃ ds, playC m (l.take i) = ds := ⟨_, rfl⟩
    obtain ⟨nd, hnd⟩ : ∃ nd, ds.length = nd := ⟨_, rfl⟩
    have HX := Lib.hid hx
    rcases playE_vals m n with ⟨hk, _⟩ | hk
    · obtain ⟨hk2, q1, q2, q3⟩ := play_take (m := m) hn hin hk
      rw [hal, hna] at q1
      subst q1
      rw [hal, hbl] at q2
      rw [hds, hcs] at q3
      have P1 := Lib.hid (fun V (h : Reads V A (flat voE l)) => hP m A l na ca V al na cs nc 0 hm hn (by omega) h hf hk hal hna hcs hnc)
      have P2 := Lib.hid (fun V (h : Reads V A (flat voE l)) => hP m A (l.take i) i ca V bl nb ds nd 0 hm htl (by omega) (rds_take voE (by decide) h i) (fun o ho => hf o (List.mem_of_mem_take ho)) hk2 hbl hnb hds hnd)
      have hnb2 : nb = i := by rw [← hnb, ← q2, List.length_take]; omega
      subst hnb2
      have HE := Lib.hid (show eqAn (al.take nb) bl = true from decide_eq_true q2)
      have HA := Lib.hid (show (al.take nb).length = nb by rw [List.length_take]; omega)
      have HB := Lib.hid hnb
      have N1 := Lib.hid hbig
      have HQ := Lib.hid q3
      have HC := Lib.hid hnc
      have HD := Lib.hid hnd
      have g2 : ((na : Int) == (na : Int)) = true := by simp
      clear hx hf hn hm hk hk2 hal hna hcs hnc hbl hnb hds hnd q2 q3 hj htl hbig
      go_enter Try.func5, Try.ntmps5
      go_wp2_with fail
      refine (AL.out _).mono ?_
      rintro e w1 ⟨rfl, hb⟩
      have B1 := Lib.hid hb
      clear hb
      go_wp2_with fail
      refine (P1.out _ (HX.out.below B1.out)).mono ?_
      rintro e w2 ⟨A2, a2, C2, c2, rfl, ha2, ha, hc, hb⟩
      have B2 := Lib.hid (B1.out.trans (hb.mono B1.out.size))
      have RA := Lib.hid ha
      have RC := Lib.hid hc
      have i4 : (nb : Int) ≤ (a2 : Int) := by omega
      have i5 : nb ≤ a2 := by omega
      clear ha hc hb
      go_wp2_with fail
      refine (P2.out _ (HX.out.below B2.out)).mono ?_
      rintro e w3 ⟨A3, a3, C3, c3, rfl, _, hb3, hd3, hb⟩
      have B3 := Lib.hid (show Below w2.heap.size w2 w3 from hb)
      have RB := Lib.hid hb3
      have RD := Lib.hid hd3
      have EQ := Lib.hid (fun q => show Calls Try.prog 10 #[.slice A2 nb a2, .slice A3 nb a3] (w3.drewN q) (fun e W' => e = .returned (.bool true) ∧ ∃ p, W' = (w3.drewN q).drewN p) from HE.out ▸ equalAn_d A2 A3 (al.take nb) bl nb nb a2 a3 (w3.drewN q) HA.out HB.out (by have := N1.out; omega) ((rds_take anE (by decide) (RA.out.below B3.out) nb)) RB.out)
      clear hb3 hd3 hb
      go_wp2
      rcases Nat.eq_zero_or_pos nd with h0 | h0
      · subst h0
        have j3 : (((0 : Nat) : Int) == 0) = true := rfl
        go_quiet ((go_at_call 10; exact quiet_of_drawn (EQ.out _)))
        go_wp2
        go_ret
        exact ⟨rfl, B2.out.trans (below_drewN (B3.out.mono B2.out.size) _)⟩
      · obtain ⟨x, t, hds⟩ : ∃ x t, ds = x :: t := by
          cases ds with
          | nil => have := HD.out; simp at this; omega
          | cons x t => exact ⟨x, t, rfl⟩
        obtain ⟨t', hcs⟩ := HQ.out x t hds
        have c0 : 0 < nc := by rw [← HC.out, hcs]; simp
        obtain ⟨b1, o1, rfl, hb1, y1⟩ := z_at (RC.out.below B3.out) (k := 0) (x := x) (by rw [hcs]; rfl)
        obtain ⟨b2, o2, rfl, hb2, y2⟩ := z_at RD.out (k := 0) (x := x) (by rw [hds]; rfl)
        rw [Nat.add_zero] at y1 y2
        have d0 : 0 < nd := h0
        have j1 : (0 : Int) < (nc : Int) := by omega
        have j2 : (0 : Int) < (nd : Int) := by omega
        have j1b : decide ((0 : Int) < (nc : Int)) = true := decide_eq_true j1
        have j1n : decide (0 < nc) = true := decide_eq_true c0
        have j3 : ((nd : Int) == 0) = false := by simp; omega
        have j3n : (nd == 0) = false := by simp; omega
        have j3d : decide (nd = 0) = false := decide_eq_false (by omega)
        have j4 : ((x : Int) == x) = true := by simp
        clear hds hcs hb1 hb2 h0
        go_quiet ((go_at_call 10; exact quiet_of_drawn (EQ.out _)))
        go_wp2
        go_ret
        exact ⟨rfl, B2.out.trans (below_drewN (B3.out.mono B2.out.size) _)⟩
    · obtain ⟨h1, h2⟩ := playC_bad hn hk
      obtain rfl : al = [] := by rw [← hal, h1]
      obtain rfl : cs = [] := by rw [← hcs, h2]
      obtain rfl : na = 0 := hna.symm
      obtain rfl : nc = 0 := hnc.symm
      obtain ⟨k2, hk2⟩ : ∃ k2, playE m i = k2 := ⟨_, rfl⟩
      have P1 := Lib.hid (fun V (h : Reads V A (flat voE l)) => hP m A l n ca V [] 0 [] 0 2 hm hn (by omega) h hf hk hal rfl hcs rfl)
      have P2 := Lib.hid (fun V (h : Reads V A (flat voE l)) => hP m A (l.take i) i ca V bl nb ds nd k2 hm htl (by omega) (rds_take voE (by decide) h i) (fun o ho => hf o (List.mem_of_mem_take ho)) hk2 hbl hnb hds hnd)
      clear hx hf hn hm hk hk2 hal hcs hbl hnb hds hnd hj htl h1 h2 hna hnc
      go_enter Try.func5, Try.ntmps5
      go_wp2_with fail
      refine (AL.out _).mono ?_
      rintro e w1 ⟨rfl, hb⟩
      have B1 := Lib.hid hb
      clear hb
      go_wp2_with fail
      refine (P1.out _ (HX.out.below B1.out)).mono ?_
      rintro e w2 ⟨A2, a2, C2, c2, rfl, _, _, hc, hb⟩
      have B2 := Lib.hid (B1.out.trans (hb.mono B1.out.size))
      clear hc hb
      go_wp2_with fail
      refine (P2.out _ (HX.out.below B2.out)).mono ?_
      rintro e w3 ⟨A3, a3, C3, c3, rfl, _, _, hc, hb⟩
      have B3 := Lib.hid (B2.out.trans (hb.mono B2.out.size))
      clear hc hb
      go_wp2
      go_ret
      exact ⟨rfl, B3.out⟩
end Go.Proofs.Ytpoielmbdofjlaa.Syn
